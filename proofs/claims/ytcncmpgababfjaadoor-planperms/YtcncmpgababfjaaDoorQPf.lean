/-
  The program's functions of one token.
-/
import Derived.Deep.LoopGhost
import Derived.OwnWalk
import Derived.Test.YtcncmpgababfjaaDoorQMm8
namespace Go.Proofs.YtcncmpgababfjaaDoor
open Go.RowKit Go.Lib Go.Shelf

abbrev zT : Obj := .cells #[.int .i64 0, .string { data := #[] }, .int .i64 0, .int .i64 0] 68
abbrev tg (t : Lx.Tok) : Value := .agg #[.int .i64 t.kind, str t.text, .int .i64 t.n, .int .i64 (t.pl : Int)]
theorem tg_eq (t : Lx.Tok) : Value.agg (tokv t).toArray = tg t := rfl

set_option maxRecDepth 100000 in
set_option maxHeartbeats 1000000 in
theorem is_at (t : Lx.Tok) (k : Int) (s : List UInt8) (w : World) :
    Calls Tryd.prog 51 #[tg t, .int .i64 k, str s] w fun e w' => e = .returned (.bool (Ps.isT k s t)) ∧ Below w.heap.size w w' := by
  obtain ⟨kd, tx, n, pl⟩ := t
  simp only [Ps.isT]
  have B := below_alloc w (.cells #[.int .i64 kd, str tx, .int .i64 n, .int .i64 (pl : Int)] 68)
  by_cases h1 : kd = k
  · subst h1
    by_cases h2 : tx = s
    · subst h2
      go_enter Tryd.func51, Tryd.ntmps51
      go_wp2_with fail
      go_ret
      exact ⟨ret_bool (by simp), B⟩
    · have h3 : (tx == s) = false := by simpa using h2
      have HS := hideP h3
      clear h2 h3
      go_enter Tryd.func51, Tryd.ntmps51
      go_wp2_with fail
      go_ret
      exact ⟨ret_bool (by simp), B⟩
  · have h3 : (kd == k) = false := by simpa using h1
    go_enter Tryd.func51, Tryd.ntmps51
    go_wp2_with fail
    go_ret
    exact ⟨ret_bool (by simp [h3]), B⟩

set_option maxRecDepth 100000 in
set_option maxHeartbeats 1000000 in
theorem mayBePred_at (t : Lx.Tok) (w : World) :
    Calls Tryd.prog 48 #[tg t] w fun e w' => e = .returned (.bool (Ps.mayW t)) ∧ Below w.heap.size w w' := by
  obtain ⟨kd, tx, n, pl⟩ := t
  simp only [Ps.mayW, Ps.kept, Ps.says, Ps.to, Ps.at_]
  have B := below_alloc w (.cells #[.int .i64 kd, str tx, .int .i64 n, .int .i64 (pl : Int)] 68)
  go_enter Tryd.func48, Tryd.ntmps48
  go_wp2_with fail
  all_goals go_ret
  all_goals refine ⟨ret_bool ?_, below_alloc w _⟩
  all_goals (clear B; simp_all)

theorem mayT_eq (t : Lx.Tok) : Ps.mayT t = ((t.kind == 2) || (t.kind == 3) || ((t.kind == 4) && !(t.text == [])) || Ps.mayW t) := rfl
theorem mayW_kind {t : Lx.Tok} (h : Ps.mayW t = true) : t.kind = 1 := by
  simp only [Ps.mayW, Bool.and_eq_true, beq_iff_eq] at h; exact h.1
set_option maxRecDepth 100000 in
set_option maxHeartbeats 1000000 in
theorem mayBeTerm_at (t : Lx.Tok) (w : World) :
    Calls Tryd.prog 36 #[tg t] w fun e w' => e = .returned (.bool (Ps.mayT t)) ∧ Below w.heap.size w w' := by
  have HP := hideP (fun w => mayBePred_at t w)
  have HM := hideP (mayT_eq t)
  have HK := hideP (fun h => mayW_kind (t := t) h)
  generalize Ps.mayT t = r at *
  generalize Ps.mayW t = m at *
  obtain ⟨kd, tx, n, pl⟩ := t
  go_enter Tryd.func36, Tryd.ntmps36
  go_wp2_with (first
    | (go_at_call 48; refine (HP.out _).mono ?_; rintro e w1 ⟨rfl, b1⟩))
  all_goals go_ret
  all_goals refine ⟨ret_bool ?_, ?_⟩
  all_goals first
    | exact below_alloc w _
    | exact Below.then (below_alloc w _) b1
    | (rw [HM.out]; simp_all; done)
    | (have hk := HK.out; rw [HM.out]; cases m <;> simp_all; done)

theorem need1_at (t : Lx.Tok) (k : Int) (s : List UInt8) (a b : Nat) (w : World) (ha : w.cell? ⟨a, 0, none⟩ = some (.int .i64 k)) (hb : w.cell? ⟨b, 0, none⟩ = some (str s)) :
    Calls Tryd.prog 50 #[tg t, ptr a, ptr b] w fun e w' => e = .returned (.bool (Ps.isT k s t)) ∧ Below w.heap.size w w' := by
  have HI := hideP (fun w => is_at t k s w)
  generalize Ps.isT k s t = r at *
  have B := below_alloc w (.cells #[.int .i64 t.kind, str t.text, .int .i64 t.n, .int .i64 (t.pl : Int)] 68)
  have ha' := hb
  have ca : (w.alloc (.cells #[.int .i64 t.kind, str t.text, .int .i64 t.n, .int .i64 (t.pl : Int)] 68)).cell? ⟨a, 0, none⟩ = some (.int .i64 k) := by rw [B.cell (cell_block ha)]; exact ha
  have cb : (w.alloc (.cells #[.int .i64 t.kind, str t.text, .int .i64 t.n, .int .i64 (t.pl : Int)] 68)).cell? ⟨b, 0, none⟩ = some (str s) := by rw [B.cell (cell_block hb)]; exact hb
  obtain ⟨kd, tx, n, pl⟩ := t
  go_enter Tryd.func50, Tryd.ntmps50
  go_wp2_with (first
    | (go_at_call 51; refine (HI.out _).mono ?_; rintro e w1 ⟨rfl, b1⟩))
  go_ret
  exact ⟨rfl, Below.then B b1⟩

theorem tok_blk {w : World} {b : Nat} {t : Lx.Tok} (h : w.heap[b]? = some (.cells (tokv t).toArray 68)) :
    w.cell? ⟨b, 0, none⟩ = some (.int .i64 t.kind) ∧ w.cell? ⟨b, 1, none⟩ = some (str t.text) ∧ w.cell? ⟨b, 2, none⟩ = some (.int .i64 t.n) ∧ w.cell? ⟨b, 3, none⟩ = some (.int .i64 (t.pl : Int)) := by
  refine ⟨?_, ?_, ?_, ?_⟩ <;> (rw [heap_cell h]; rfl)
theorem PAt.cells {w : World} {p E : Nat} {L : List Lx.Tok} (h : PAt w p E L) : ∃ a c, w.cell? ⟨p, 0, none⟩ = some (.slice a L.length c) ∧ w.cell? ⟨p, 1, none⟩ = some (.int .i64 (E : Int)) ∧ RowT kT 68 w a c L := by
  obtain ⟨a, c, h1, h2⟩ := h.obj
  exact ⟨a, c, by rw [heap_cell h1]; rfl, by rw [heap_cell h1]; rfl, h2⟩
theorem hd_drop {L : List Lx.Tok} {k : Nat} (h : k < L.length) : Ps.hd (L.drop k) = L[k] := by rw [List.drop_eq_getElem_cons h]; rfl
theorem hd_over {L : List Lx.Tok} {k : Nat} (h : L.length ≤ k) : Ps.hd (L.drop k) = Ps.tz := by rw [List.drop_of_length_le h]; rfl

set_option maxRecDepth 100000 in
set_option maxHeartbeats 1000000 in
theorem ahead_at (p E k : Nat) (L : List Lx.Tok) (w : World) (h : PAt w p E L) :
    Calls Tryd.prog 37 #[ptr p, .int .i64 (k : Int)] w fun e w' => e = .returned (tg (Ps.hd (L.drop k))) ∧ Below w.heap.size w w' := by
  have iN : (Tryd.prog.info? 68).map (·.size) = some 4 := by kernel_rfl
  have B0 := below_alloc w zT
  obtain ⟨a, c, c0, c1, r0⟩ := (h.below B0).cells
  have few := r0.row.few
  have Z0 := heap_alloc_new w zT
  rcases Nat.lt_or_ge k L.length with hk | hk
  · have hk' : (k : Int) < (L.length : Int) := by omega
    have HH := hideP (hd_drop hk)
    obtain ⟨P1, O1, rfl⟩ := r0.row.addr (by omega)
    have RG := r0.row.range k hk
    generalize L[k] = t at *
    go_enter Tryd.func37, Tryd.ntmps37
    go_wp2_with (first
      | (refine wpList_load_mid rfl 68 _ rfl P1 (O1 + k * 4) rfl (tokv t) _ RG Tryd.underlying68 rfl iN ?_)
      | (refine wpList_store_all rfl 68 _ _ rfl w.heap.size 4 _ 68 (tokv t) rfl rfl Z0 rfl rfl iN rfl ?_; intro w3 V3 b3))
    refine bodyPost_ret (results_cell rfl rfl V3 Tryd.underlying68 rfl (by kernel_rfl)) rfl ⟨?_, below_tok b3⟩
    rw [HH.out]; rfl
  · have hk' : ¬ (k : Int) < (L.length : Int) := by omega
    have HH := hideP (hd_over hk)
    go_enter Tryd.func37, Tryd.ntmps37
    go_wp2_with (first
      | (refine wpList_store_all rfl 68 _ _ rfl w.heap.size 4 _ 68 (tokv Ps.tz) rfl rfl Z0 rfl rfl iN rfl ?_; intro w3 V3 b3))
    refine bodyPost_ret (results_cell rfl rfl V3 Tryd.underlying68 rfl (by kernel_rfl)) rfl ⟨?_, below_tok b3⟩
    rw [HH.out]; rfl
theorem ahead0 (p E : Nat) (L : List Lx.Tok) (w : World) (h : PAt w p E L) :
    Calls Tryd.prog 37 #[ptr p, .int .i64 0] w fun e w' => e = .returned (tg (Ps.hd L)) ∧ Below w.heap.size w w' := by
  have := ahead_at p E 0 L w h
  simpa using this
theorem ahead1 (p E : Nat) (L : List Lx.Tok) (w : World) (h : PAt w p E L) :
    Calls Tryd.prog 37 #[ptr p, .int .i64 1] w fun e w' => e = .returned (tg (Ps.hd L.tail)) ∧ Below w.heap.size w w' := by
  have := ahead_at p E 1 L w h
  rw [List.drop_one] at this
  exact this

set_option maxRecDepth 100000 in
set_option maxHeartbeats 1000000 in
theorem giveUp_at (p E : Nat) (er : Int) (L : List Lx.Tok) (w : World) (h : PAt w p E L) :
    Calls Tryd.prog 38 #[ptr p, .int .i64 er] w fun e w' => e = Pan (Ps.pl E L, er) ∧ w = w' := by
  obtain ⟨a, c, c0, c1, r0⟩ := h.cells
  cases L with
  | nil =>
    go_enter Tryd.func38, Tryd.ntmps38
    go_wp2_with fail
    exact ⟨rfl, rfl, rfl⟩
  | cons t L =>
    have few := r0.row.few
    obtain ⟨P1, O1, rfl⟩ := r0.row.addr (by simp)
    have RG := r0.row.range 0 (by simp) 3 _ rfl
    change w.cell? ⟨P1, O1 + 0 * 4 + 3, none⟩ = some (.int .i64 (t.pl : Int)) at RG
    rw [Nat.zero_mul, Nat.add_zero] at RG
    simp only [List.length_cons] at *
    have q1 : ((L.length + 1 : Nat) : Int) > 0 := by omega
    go_enter Tryd.func38, Tryd.ntmps38
    go_wp2_with fail
    exact ⟨rfl, rfl, rfl⟩
end Go.Proofs.YtcncmpgababfjaaDoor

/-
  The program's parser: one token more, or none; a term.
-/
namespace Go.Proofs.YtcncmpgababfjaaDoor
open Go.RowKit Go.Lib Go.Shelf

theorem enter_pred (args : Array Value) (w : World) : (callFunc 48 args).run Tryd.prog w = .ok (.enter 48 args) w := enters_of Tryd.func48 (by kernel_rfl) rfl args w
theorem enter_term (args : Array Value) (w : World) : (callFunc 36 args).run Tryd.prog w = .ok (.enter 36 args) w := enters_of Tryd.func36 (by kernel_rfl) rfl args w
theorem enter_need (args : Array Value) (w : World) : (callFunc 50 args).run Tryd.prog w = .ok (.enter 50 args) w := enters_of Tryd.func50 (by kernel_rfl) rfl args w

theorem PAt.took {w w' : World} {p E b o c : Nat} {t : Lx.Tok} {L : List Lx.Tok} (hp : w.heap[p]? = some (.cells #[.slice (some ⟨b, o, none⟩) (L.length + 1) c, .int .i64 (E : Int)] 59)) (r : RowT kT 68 w (some ⟨b, o, none⟩) c (t :: L))
    (hb : But p w w') (h' : w'.heap[p]? = some (.cells #[.slice (some (tl b o c)) L.length (c - 1), .int .i64 (E : Int)] 59)) : PAt w' p E L :=
  ⟨_, _, h', (row_tl r).safe (Safe.but hb hp (by decide))⟩

set_option maxRecDepth 100000 in
set_option maxHeartbeats 1000000 in
theorem takeF_yes (F : Nat) (f : Lx.Tok → Bool) (hE : ∀ args w, (callFunc F args).run Tryd.prog w = .ok (.enter F args) w) (hF : ∀ t w, Calls Tryd.prog F #[tg t] w fun e w' => e = .returned (.bool (f t)) ∧ Below w.heap.size w w')
    (p E : Nat) (t : Lx.Tok) (L : List Lx.Tok) (w : World) (h : PAt w p E (t :: L)) (hf : f t = true) :
    Calls Tryd.prog 49 #[ptr p, .func (.func F) #[] #[]] w fun e w' => e = .returned (tg t) ∧ PAt w' p E L ∧ But p w w' := by
  have iN : (Tryd.prog.info? 68).map (·.size) = some 4 := by kernel_rfl
  have hF1 := hF t
  rw [hf] at hF1
  have HF := hideP hF1
  clear hF hF1 hf
  have HA := hideP (fun w h => ahead0 p E (t :: L) w h)
  have hp := h.lt
  obtain ⟨a, c, H0, r0⟩ := h.obj
  obtain ⟨P1, O1, rfl⟩ := r0.row.addr (by simp)
  simp only [List.length_cons] at H0
  have few := r0.row.few
  simp only [List.length_cons] at few
  have HS := fun w => slice1 P1 O1 L.length c w
  have B0 := below_alloc w zT
  have Z0 := heap_alloc_new w zT
  go_enter Tryd.func49, Tryd.ntmps49
  go_wp2_with fail
  refine (HA.out _ (h.below B0)).mono ?_
  rintro e w1 ⟨rfl, b1⟩
  have B1 := Below.then B0 b1
  have Z1 := below_heap b1 Z0
  change w1.heap[w.heap.size]? = some zT at Z1
  have s1 := B1.size
  have s2 := heap_lt Z1
  have V1 := heap_alloc_new w1 zT
  simp only [Ps.hd]
  go_wp2_with (first
    | (refine wpList_store_all rfl 68 _ _ rfl w1.heap.size 4 _ 68 (tokv t) rfl rfl V1 rfl rfl iN rfl ?_; intro w2 V2 b2; have B2 := Below.then B1 (below_tok b2); have Z2 := below_heap (below_tok b2) Z1)
    | (refine wpList_load_all rfl 68 _ rfl w1.heap.size 4 68 (tokv t) _ rfl V2 rfl Tryd.underlying68 rfl iN ?_)
    | (refine (HF.out _).mono ?_; rintro e w3 ⟨rfl, b3⟩; have B3 := Below.then B2 b3; have Z3 := below_heap b3 Z2; have V3 := below_heap b3 V2; have H3 := below_heap B3 H0; have c3 : w3.cell? ⟨p, 0, none⟩ = some (.slice (some ⟨P1, O1, none⟩) (L.length + 1) c) := (by rw [heap_cell H3]; rfl))
    | (refine wpList_store_cel rfl 54 _ _ rfl p 0 2 59 (.slice (some (tl P1 O1 c)) L.length (c - 1)) #[.slice (some (tl P1 O1 c)) L.length (c - 1), .int .i64 (E : Int)] rfl rfl H3 rfl (by decide) (by kernel_rfl) rfl rfl ?_; intro w4 V4 b4; have Z4 := b4.heap (show w.heap.size ≠ p by omega) Z3; have U4 := b4.heap (show w1.heap.size ≠ p by omega) V3)
    | (refine wpList_load_all rfl 68 _ rfl w1.heap.size 4 68 (tokv t) _ rfl U4 rfl Tryd.underlying68 rfl iN ?_)
    | (refine wpList_store_all rfl 68 _ _ rfl w.heap.size 4 _ 68 (tokv t) rfl rfl Z4 rfl rfl iN rfl ?_; intro w5 V5 b5))
  have hb : But p w w5 := ((But.of_below B3).trans b4).fresh b5 (Nat.le_refl _)
  exact bodyPost_ret (results_cell rfl rfl V5 Tryd.underlying68 rfl (by kernel_rfl)) rfl ⟨rfl, PAt.took H0 r0 hb (b5.heap (by omega) V4), hb⟩

set_option maxRecDepth 100000 in
set_option maxHeartbeats 1000000 in
theorem takeF_no (F : Nat) (f : Lx.Tok → Bool) (hE : ∀ args w, (callFunc F args).run Tryd.prog w = .ok (.enter F args) w) (hF : ∀ t w, Calls Tryd.prog F #[tg t] w fun e w' => e = .returned (.bool (f t)) ∧ Below w.heap.size w w')
    (p E : Nat) (L : List Lx.Tok) (w : World) (h : PAt w p E L) (hf : f (Ps.hd L) = false) :
    Calls Tryd.prog 49 #[ptr p, .func (.func F) #[] #[]] w fun e w' => e = Pan (Ps.bad E L) ∧ But p w w' := by
  have iN : (Tryd.prog.info? 68).map (·.size) = some 4 := by kernel_rfl
  have hF1 := hF (Ps.hd L)
  rw [hf] at hF1
  have HF := hideP hF1
  clear hF hF1 hf
  have HA := hideP (fun w h => ahead0 p E L w h)
  have HG := hideP (fun w h => giveUp_at p E 80 L w h)
  generalize Ps.hd L = t at *
  have B0 := below_alloc w zT
  go_enter Tryd.func49, Tryd.ntmps49
  go_wp2_with fail
  refine (HA.out _ (h.below B0)).mono ?_
  rintro e w1 ⟨rfl, b1⟩
  have B1 := Below.then B0 b1
  have V1 := heap_alloc_new w1 zT
  go_wp2_with (first
    | (refine wpList_store_all rfl 68 _ _ rfl w1.heap.size 4 _ 68 (tokv t) rfl rfl V1 rfl rfl iN rfl ?_; intro w2 V2 b2; have B2 := Below.then B1 (below_tok b2))
    | (refine wpList_load_all rfl 68 _ rfl w1.heap.size 4 68 (tokv t) _ rfl V2 rfl Tryd.underlying68 rfl iN ?_)
    | (go_at_call 38; refine (HG.out _ (h.below B3)).mono ?_; rintro e w4 ⟨rfl, rfl⟩; simp only [Pan])
    | (refine (HF.out _).mono ?_; rintro e w3 ⟨rfl, b3⟩; have B3 := Below.then B2 b3))
  exact ⟨rfl, rfl, But.of_below B3⟩

set_option maxRecDepth 100000 in
set_option maxHeartbeats 1000000 in
theorem takeN_yes (k : Int) (s : List UInt8) (ka sa : Nat)
    (p E : Nat) (t : Lx.Tok) (L : List Lx.Tok) (w : World) (h : PAt w p E (t :: L)) (hk : w.cell? ⟨ka, 0, none⟩ = some (.int .i64 k)) (hs : w.cell? ⟨sa, 0, none⟩ = some (str s)) (hf : Ps.isT k s t = true) :
    Calls Tryd.prog 49 #[ptr p, .func (.func 50) #[] #[ptr ka, ptr sa]] w fun e w' => e = .returned (tg t) ∧ PAt w' p E L ∧ But p w w' := by
  have iN : (Tryd.prog.info? 68).map (·.size) = some 4 := by kernel_rfl
  have hE := enter_need
  have HF := hideP (fun W (hB : Below w.heap.size w W) => need1_at t k s ka sa W ((hB.cell (cell_block hk)).trans hk) ((hB.cell (cell_block hs)).trans hs))
  rw [hf] at HF
  clear hf hk hs
  have HA := hideP (fun w h => ahead0 p E (t :: L) w h)
  have hp := h.lt
  obtain ⟨a, c, H0, r0⟩ := h.obj
  obtain ⟨P1, O1, rfl⟩ := r0.row.addr (by simp)
  simp only [List.length_cons] at H0
  have few := r0.row.few
  simp only [List.length_cons] at few
  have HS := fun w => slice1 P1 O1 L.length c w
  have B0 := below_alloc w zT
  have Z0 := heap_alloc_new w zT
  go_enter Tryd.func49, Tryd.ntmps49
  go_wp2_with fail
  refine (HA.out _ (h.below B0)).mono ?_
  rintro e w1 ⟨rfl, b1⟩
  have B1 := Below.then B0 b1
  have Z1 := below_heap b1 Z0
  change w1.heap[w.heap.size]? = some zT at Z1
  have s1 := B1.size
  have s2 := heap_lt Z1
  have V1 := heap_alloc_new w1 zT
  simp only [Ps.hd]
  go_wp2_with (first
    | (refine wpList_store_all rfl 68 _ _ rfl w1.heap.size 4 _ 68 (tokv t) rfl rfl V1 rfl rfl iN rfl ?_; intro w2 V2 b2; have B2 := Below.then B1 (below_tok b2); have Z2 := below_heap (below_tok b2) Z1)
    | (refine wpList_load_all rfl 68 _ rfl w1.heap.size 4 68 (tokv t) _ rfl V2 rfl Tryd.underlying68 rfl iN ?_)
    | (refine (HF.out _ B2).mono ?_; rintro e w3 ⟨rfl, b3⟩; have B3 := Below.then B2 b3; have Z3 := below_heap b3 Z2; have V3 := below_heap b3 V2; have H3 := below_heap B3 H0; have c3 : w3.cell? ⟨p, 0, none⟩ = some (.slice (some ⟨P1, O1, none⟩) (L.length + 1) c) := (by rw [heap_cell H3]; rfl))
    | (refine wpList_store_cel rfl 54 _ _ rfl p 0 2 59 (.slice (some (tl P1 O1 c)) L.length (c - 1)) #[.slice (some (tl P1 O1 c)) L.length (c - 1), .int .i64 (E : Int)] rfl rfl H3 rfl (by decide) (by kernel_rfl) rfl rfl ?_; intro w4 V4 b4; have Z4 := b4.heap (show w.heap.size ≠ p by omega) Z3; have U4 := b4.heap (show w1.heap.size ≠ p by omega) V3)
    | (refine wpList_load_all rfl 68 _ rfl w1.heap.size 4 68 (tokv t) _ rfl U4 rfl Tryd.underlying68 rfl iN ?_)
    | (refine wpList_store_all rfl 68 _ _ rfl w.heap.size 4 _ 68 (tokv t) rfl rfl Z4 rfl rfl iN rfl ?_; intro w5 V5 b5))
  have hb : But p w w5 := ((But.of_below B3).trans b4).fresh b5 (Nat.le_refl _)
  exact bodyPost_ret (results_cell rfl rfl V5 Tryd.underlying68 rfl (by kernel_rfl)) rfl ⟨rfl, PAt.took H0 r0 hb (b5.heap (by omega) V4), hb⟩

set_option maxRecDepth 100000 in
set_option maxHeartbeats 1000000 in
theorem takeN_no (k : Int) (s : List UInt8) (ka sa : Nat)
    (p E : Nat) (L : List Lx.Tok) (w : World) (h : PAt w p E L) (hk : w.cell? ⟨ka, 0, none⟩ = some (.int .i64 k)) (hs : w.cell? ⟨sa, 0, none⟩ = some (str s)) (hf : Ps.isT k s (Ps.hd L) = false) :
    Calls Tryd.prog 49 #[ptr p, .func (.func 50) #[] #[ptr ka, ptr sa]] w fun e w' => e = Pan (Ps.bad E L) ∧ But p w w' := by
  have iN : (Tryd.prog.info? 68).map (·.size) = some 4 := by kernel_rfl
  have hE := enter_need
  have HF := hideP (fun W (hB : Below w.heap.size w W) => need1_at (Ps.hd L) k s ka sa W ((hB.cell (cell_block hk)).trans hk) ((hB.cell (cell_block hs)).trans hs))
  rw [hf] at HF
  clear hf hk hs
  have HA := hideP (fun w h => ahead0 p E L w h)
  have HG := hideP (fun w h => giveUp_at p E 80 L w h)
  generalize Ps.hd L = t at *
  have B0 := below_alloc w zT
  go_enter Tryd.func49, Tryd.ntmps49
  go_wp2_with fail
  refine (HA.out _ (h.below B0)).mono ?_
  rintro e w1 ⟨rfl, b1⟩
  have B1 := Below.then B0 b1
  have V1 := heap_alloc_new w1 zT
  go_wp2_with (first
    | (refine wpList_store_all rfl 68 _ _ rfl w1.heap.size 4 _ 68 (tokv t) rfl rfl V1 rfl rfl iN rfl ?_; intro w2 V2 b2; have B2 := Below.then B1 (below_tok b2))
    | (refine wpList_load_all rfl 68 _ rfl w1.heap.size 4 68 (tokv t) _ rfl V2 rfl Tryd.underlying68 rfl iN ?_)
    | (go_at_call 38; refine (HG.out _ (h.below B3)).mono ?_; rintro e w4 ⟨rfl, rfl⟩; simp only [Pan])
    | (refine (HF.out _ B2).mono ?_; rintro e w3 ⟨rfl, b3⟩; have B3 := Below.then B2 b3))
  exact ⟨rfl, rfl, But.of_below B3⟩

theorem need_split (E : Nat) (k : Int) (s : List UInt8) (L : List Lx.Tok) (hk : k ≠ 0) : (∃ t R, L = t :: R ∧ Ps.isT k s t = true ∧ Ps.need E k s L = .ok ((), R)) ∨ (Ps.isT k s (Ps.hd L) = false ∧ Ps.need E k s L = .error (Ps.bad E L)) := by
  unfold Ps.need
  by_cases h : Ps.isT k s (Ps.hd L) = true
  · rw [if_pos h]
    cases L with
    | nil => exact absurd rfl (Ps.hd_ne hk h)
    | cons t R => exact .inl ⟨t, R, rfl, h, rfl⟩
  · rw [if_neg h]; exact .inr ⟨by simpa using h, rfl⟩
theorem term_split (E : Nat) (L : List Lx.Tok) : (∃ t R, L = t :: R ∧ Ps.mayT t = true ∧ Ps.term E L = .ok (Ps.tm t, R)) ∨ (Ps.mayT (Ps.hd L) = false ∧ Ps.term E L = .error (Ps.bad E L)) := by
  unfold Ps.term
  by_cases h : Ps.mayT (Ps.hd L) = true
  · rw [if_pos h]
    cases L with
    | nil => exact absurd rfl (Ps.mayT_ne h)
    | cons t R => exact .inl ⟨t, R, rfl, h, rfl⟩
  · rw [if_neg h]; exact .inr ⟨by simpa using h, rfl⟩
theorem word_split (E : Nat) (L : List Lx.Tok) : (∃ t R, L = t :: R ∧ Ps.mayW t = true ∧ Ps.word E L = .ok (t.text, R)) ∨ (Ps.mayW (Ps.hd L) = false ∧ Ps.word E L = .error (Ps.bad E L)) := by
  unfold Ps.word
  by_cases h : Ps.mayW (Ps.hd L) = true
  · rw [if_pos h]
    cases L with
    | nil => exact absurd rfl (Ps.mayW_ne h)
    | cons t R => exact .inl ⟨t, R, rfl, h, rfl⟩
  · rw [if_neg h]; exact .inr ⟨by simpa using h, rfl⟩

theorem does_ok {α : Type} {p E : Nat} {w w' : World} {v : α} {L : List Lx.Tok} {V : α → Value → World → Prop} {u : Value} (hb : But p w w') (hv : V v u w') (hp : PAt w' p E L) : Does p E w (.ok (v, L)) V (.returned u) w' := ⟨hb, ⟨u, rfl, hv⟩, hp⟩
theorem does_no {α : Type} {p E : Nat} {w w' : World} {x : Nat × Int} {V : α → Value → World → Prop} (hb : But p w w') : Does p E w (.error x) V (Pan x) w' := ⟨hb, rfl⟩
def vUnit : Unit → Value → World → Prop := fun _ u _ => u = .tuple #[]
def vTerm : Tm → Value → World → Prop := fun t u _ => u = tval t

set_option maxRecDepth 100000 in
set_option maxHeartbeats 1000000 in
theorem need_at (p E : Nat) (k : Int) (s : List UInt8) (L : List Lx.Tok) (w : World) (h : PAt w p E L) (hk : k ≠ 0) :
    Calls Tryd.prog 40 #[ptr p, .int .i64 k, str s] w (Does p E w (Ps.need E k s L) vUnit) := by
  have hmf : ∀ (fn : Fn) (first cap : Array Value) (w : World), (Instr.makeFunc fn first cap).run Tryd.prog w = .ok (.func fn first cap) w := fun _ _ _ _ => rfl
  have B0 := Below.then (below_alloc w (.cells #[.int .i64 k] 3)) (below_alloc _ (.cells #[str s] 9))
  have c0 : ((w.alloc (.cells #[.int .i64 k] 3)).alloc (.cells #[str s] 9)).cell? ⟨w.heap.size, 0, none⟩ = some (.int .i64 k) := by
    rw [heap_cell (below_heap (below_alloc _ (.cells #[str s] 9)) (heap_alloc_new w _))]; rfl
  have c1 : ((w.alloc (.cells #[.int .i64 k] 3)).alloc (.cells #[str s] 9)).cell? ⟨w.heap.size + 1, 0, none⟩ = some (str s) := by
    have := heap_alloc_new (w.alloc (.cells #[.int .i64 k] 3)) (.cells #[str s] 9)
    rw [show (w.alloc (.cells #[.int .i64 k] 3)).heap.size = w.heap.size + 1 by simp] at this
    rw [heap_cell this]; rfl
  rcases need_split E k s L hk with ⟨t, R, rfl, ht, hn⟩ | ⟨ht, hn⟩
  · have T := hideP (takeN_yes k s w.heap.size (w.heap.size + 1) p E t R _ (h.below B0) c0 c1 ht)
    rw [hn]
    clear ht hn hk c0 c1
    go_enter Tryd.func40, Tryd.ntmps40
    go_wp2_with (first
      | (go_at_call 49; refine T.out.mono ?_; rintro e w1 ⟨rfl, p1, b1⟩))
    go_end0
    exact does_ok ((But.of_below B0).trans b1) rfl p1
  · have T := hideP (takeN_no k s w.heap.size (w.heap.size + 1) p E L _ (h.below B0) c0 c1 ht)
    rw [hn]
    clear ht hn hk c0 c1
    go_enter Tryd.func40, Tryd.ntmps40
    go_wp2_with (first
      | (go_at_call 49; refine T.out.mono ?_; rintro e w1 ⟨rfl, b1⟩; simp only [Pan]))
    exact ⟨rfl, does_no ((But.of_below B0).trans b1)⟩

set_option maxRecDepth 100000 in
set_option maxHeartbeats 1000000 in
theorem term_at (p E : Nat) (L : List Lx.Tok) (w : World) (h : PAt w p E L) :
    Calls Tryd.prog 39 #[ptr p] w (Does p E w (Ps.term E L) vTerm) := by
  have iN : (Tryd.prog.info? 68).map (·.size) = some 4 := by kernel_rfl
  have iT : (Tryd.prog.info? 25).map (·.size) = some 4 := by kernel_rfl
  have B0 := below_alloc w (.cells #[.string { data := #[] }, .bool false, .int .i64 0, .string { data := #[] }] 25)
  have Z0 := heap_alloc_new w (.cells #[.string { data := #[] }, .bool false, .int .i64 0, .string { data := #[] }] 25)
  have hp := h.lt
  rcases term_split E L with ⟨t, R, rfl, ht, hn⟩ | ⟨ht, hn⟩
  · have T := hideP (takeF_yes 36 Ps.mayT enter_term mayBeTerm_at p E t R _ (h.below B0) ht)
    rw [hn]
    clear ht hn
    obtain ⟨kd, tx, n, pl⟩ := t
    by_cases k2 : kd = 2
    · subst k2
      have HT := hideP (show vTerm (Ps.tm ⟨2, tx, n, pl⟩) (tval ⟨tx, k0⟩) w from rfl)
      go_enter Tryd.func39, Tryd.ntmps39
      go_wp2_with (first
        | (go_at_call 49; refine T.out.mono ?_; rintro e w1 ⟨rfl, p1, b1⟩; have Z1 := b1.heap (show w.heap.size ≠ p by omega) Z0; have s1 := heap_lt Z1; have V1 := heap_alloc_new w1 zT)
        | (refine wpList_store_all rfl 68 _ _ rfl w1.heap.size 4 _ 68 (tokv ⟨2, tx, n, pl⟩) rfl rfl V1 rfl rfl iN rfl ?_; intro w2 V2 b2; have Z2 := below_heap (below_tok b2) Z1; obtain ⟨x1, x2, x3, x4⟩ := tok_blk V2)
        | (refine wpList_store_all rfl 25 _ _ rfl w.heap.size 4 _ 25 (tv ⟨tx, k0⟩) rfl rfl Z2 rfl rfl iT rfl ?_; intro w5 V5 b5))
      have hb : But p w w5 := ((But.of_below B0).trans (b1.below (below_tok b2))).fresh b5 (Nat.le_refl _)
      exact bodyPost_ret (results_cell rfl rfl V5 Tryd.underlying25 rfl (by kernel_rfl)) rfl (does_ok hb HT.out ((p1.below (below_tok b2)).but b5 Z2 (by decide) (by decide)))
    by_cases k3 : kd = 3
    · subst k3
      have HT := hideP (show vTerm (Ps.tm ⟨3, tx, n, pl⟩) (tval ⟨[], ⟨true, n, []⟩⟩) w from rfl)
      clear k2
      go_enter Tryd.func39, Tryd.ntmps39
      go_wp2_with (first
        | (go_at_call 49; refine T.out.mono ?_; rintro e w1 ⟨rfl, p1, b1⟩; have Z1 := b1.heap (show w.heap.size ≠ p by omega) Z0; have s1 := heap_lt Z1; have V1 := heap_alloc_new w1 zT)
        | (refine wpList_store_all rfl 68 _ _ rfl w1.heap.size 4 _ 68 (tokv ⟨3, tx, n, pl⟩) rfl rfl V1 rfl rfl iN rfl ?_; intro w2 V2 b2; have Z2 := below_heap (below_tok b2) Z1; obtain ⟨x1, x2, x3, x4⟩ := tok_blk V2)
        | (refine wpList_store_all rfl 25 _ _ rfl w.heap.size 4 _ 25 (tv ⟨[], ⟨true, n, []⟩⟩) rfl rfl Z2 rfl rfl iT rfl ?_; intro w5 V5 b5))
      have hb : But p w w5 := ((But.of_below B0).trans (b1.below (below_tok b2))).fresh b5 (Nat.le_refl _)
      exact bodyPost_ret (results_cell rfl rfl V5 Tryd.underlying25 rfl (by kernel_rfl)) rfl (does_ok hb HT.out ((p1.below (below_tok b2)).but b5 Z2 (by decide) (by decide)))
    · have HT := hideP (show vTerm (Ps.tm ⟨kd, tx, n, pl⟩) (tval ⟨[], ⟨false, 0, tx⟩⟩) w by unfold vTerm Ps.tm; rw [if_neg k2, if_neg k3])
      go_enter Tryd.func39, Tryd.ntmps39
      go_wp2_with (first
        | (go_at_call 49; refine T.out.mono ?_; rintro e w1 ⟨rfl, p1, b1⟩; have Z1 := b1.heap (show w.heap.size ≠ p by omega) Z0; have s1 := heap_lt Z1; have V1 := heap_alloc_new w1 zT)
        | (refine wpList_store_all rfl 68 _ _ rfl w1.heap.size 4 _ 68 (tokv ⟨kd, tx, n, pl⟩) rfl rfl V1 rfl rfl iN rfl ?_; intro w2 V2 b2; have Z2 := below_heap (below_tok b2) Z1; obtain ⟨x1, x2, x3, x4⟩ := tok_blk V2)
        | (refine wpList_store_all rfl 25 _ _ rfl w.heap.size 4 _ 25 (tv ⟨[], ⟨false, 0, tx⟩⟩) rfl rfl Z2 rfl rfl iT rfl ?_; intro w5 V5 b5))
      have hb : But p w w5 := ((But.of_below B0).trans (b1.below (below_tok b2))).fresh b5 (Nat.le_refl _)
      exact bodyPost_ret (results_cell rfl rfl V5 Tryd.underlying25 rfl (by kernel_rfl)) rfl (does_ok hb HT.out ((p1.below (below_tok b2)).but b5 Z2 (by decide) (by decide)))
  · have T := hideP (takeF_no 36 Ps.mayT enter_term mayBeTerm_at p E L _ (h.below B0) ht)
    rw [hn]
    clear ht hn
    go_enter Tryd.func39, Tryd.ntmps39
    go_wp2_with (first
      | (go_at_call 49; refine T.out.mono ?_; rintro e w1 ⟨rfl, b1⟩; simp only [Pan]))
    exact ⟨rfl, does_no ((But.of_below B0).trans b1)⟩

/-- one token more, if it is that one -/
def tookR (k : Int) (s : List UInt8) (L : List Lx.Tok) : Bool × List Lx.Tok := if Ps.isT k s (Ps.hd L) = true then (true, L.tail) else (false, L)
set_option maxRecDepth 100000 in
set_option maxHeartbeats 1000000 in
theorem took_yes (p E : Nat) (k : Int) (s : List UInt8) (t : Lx.Tok) (L : List Lx.Tok) (w : World) (h : PAt w p E (t :: L)) (ht : Ps.isT k s t = true) :
    Calls Tryd.prog 42 #[ptr p, .int .i64 k, str s] w fun e w' => e = .returned (.bool true) ∧ PAt w' p E L ∧ But p w w' := by
  have HA := hideP (ahead0 p E (t :: L) w h)
  have HI := hideP (fun w => is_at t k s w)
  rw [ht] at HI
  obtain ⟨a, c, H0, r0⟩ := h.obj
  obtain ⟨P1, O1, rfl⟩ := r0.row.addr (by simp)
  simp only [List.length_cons] at H0
  have few := r0.row.few
  simp only [List.length_cons] at few
  have HS := fun w => slice1 P1 O1 L.length c w
  clear ht
  go_enter Tryd.func42, Tryd.ntmps42
  go_wp2_with fail
  refine HA.out.mono ?_
  rintro e w1 ⟨rfl, b1⟩
  simp only [Ps.hd]
  go_wp2_with (first
    | (go_at_call 51; refine (HI.out _).mono ?_; rintro e w3 ⟨rfl, b3⟩; have B3 := Below.then b1 b3; have H3 := below_heap B3 H0; have c3 : w3.cell? ⟨p, 0, none⟩ = some (.slice (some ⟨P1, O1, none⟩) (L.length + 1) c) := (by rw [heap_cell H3]; rfl))
    | (refine wpList_store_cel rfl 54 _ _ rfl p 0 2 59 (.slice (some (tl P1 O1 c)) L.length (c - 1)) #[.slice (some (tl P1 O1 c)) L.length (c - 1), .int .i64 (E : Int)] rfl rfl H3 rfl (by decide) (by kernel_rfl) rfl rfl ?_; intro w4 V4 b4))
  go_ret
  have hb : But p w w4 := (But.of_below B3).trans b4
  exact ⟨rfl, PAt.took H0 r0 hb V4, hb⟩
set_option maxRecDepth 100000 in
set_option maxHeartbeats 1000000 in
theorem took_no (p E : Nat) (k : Int) (s : List UInt8) (L : List Lx.Tok) (w : World) (h : PAt w p E L) (ht : Ps.isT k s (Ps.hd L) = false) :
    Calls Tryd.prog 42 #[ptr p, .int .i64 k, str s] w fun e w' => e = .returned (.bool false) ∧ Below w.heap.size w w' := by
  have HA := hideP (ahead0 p E L w h)
  have HI := hideP (fun w => is_at (Ps.hd L) k s w)
  rw [ht] at HI
  clear ht
  generalize Ps.hd L = t at *
  go_enter Tryd.func42, Tryd.ntmps42
  go_wp2_with fail
  refine HA.out.mono ?_
  rintro e w1 ⟨rfl, b1⟩
  go_wp2_with (first
    | (go_at_call 51; refine (HI.out _).mono ?_; rintro e w3 ⟨rfl, b3⟩))
  go_ret
  exact ⟨rfl, Below.then b1 b3⟩
theorem took_at (p E : Nat) (k : Int) (s : List UInt8) (L : List Lx.Tok) (w : World) (h : PAt w p E L) (hk : k ≠ 0) :
    Calls Tryd.prog 42 #[ptr p, .int .i64 k, str s] w fun e w' => e = .returned (.bool (tookR k s L).1) ∧ PAt w' p E (tookR k s L).2 ∧ But p w w' := by
  unfold tookR
  by_cases ht : Ps.isT k s (Ps.hd L) = true
  · rw [if_pos ht]
    cases L with
    | nil => exact absurd rfl (Ps.hd_ne hk ht)
    | cons t L => exact took_yes p E k s t L w h ht
  · rw [if_neg ht]
    refine (took_no p E k s L w h (by simpa using ht)).mono ?_
    rintro e w' ⟨rfl, hb⟩
    exact ⟨rfl, h.below hb, But.of_below hb⟩

set_option maxRecDepth 100000 in
set_option maxHeartbeats 1000000 in
theorem allow_few (p : Nat) (n m : Int) (w : World) (hn : ¬ n = m) :
    Calls Tryd.prog 25 #[ptr p, .int .i64 n, .int .i64 m] w fun e w' => e = .returned (.tuple #[]) ∧ w = w' := by
  have hq : (n == m) = false := by simpa using hn
  go_enter Tryd.func25, Tryd.ntmps25
  go_wp2_with fail
  go_end0
  exact ⟨rfl, rfl⟩
set_option maxRecDepth 100000 in
set_option maxHeartbeats 1000000 in
theorem allow_full (p E : Nat) (m : Int) (L : List Lx.Tok) (w : World) (h : PAt w p E L) :
    Calls Tryd.prog 25 #[ptr p, .int .i64 m, .int .i64 m] w fun e w' => Below w.heap.size w w' ∧ if Ps.mayT (Ps.hd L) = true then e = Pan (Ps.many E L) else e = .returned (.tuple #[]) := by
  have HA := hideP (ahead0 p E L w h)
  have HT := hideP (fun w => mayBeTerm_at (Ps.hd L) w)
  have HG := hideP (fun w h => giveUp_at p E 81 L w h)
  have HM := hideP (fun hm : Ps.mayT (Ps.hd L) = true => show (Ps.pl E L, (81 : Int)) = Ps.many E L by unfold Ps.many; rw [if_pos hm])
  generalize Ps.hd L = t at *
  generalize Ps.mayT t = b at *
  go_enter Tryd.func25, Tryd.ntmps25
  go_wp2_with fail
  refine HA.out.mono ?_
  rintro e w1 ⟨rfl, b1⟩
  cases b
  · go_wp2_with (first
      | (go_at_call 36; refine (HT.out _).mono ?_; rintro e w3 ⟨rfl, b3⟩; have B3 := Below.then b1 b3))
    go_end0
    exact ⟨B3, by simp⟩
  · go_wp2_with (first
      | (go_at_call 36; refine (HT.out _).mono ?_; rintro e w3 ⟨rfl, b3⟩; have B3 := Below.then b1 b3)
      | (go_at_call 38; refine (HG.out _ (h.below B3)).mono ?_; rintro e w4 ⟨rfl, rfl⟩; simp only [Pan]))
    refine ⟨rfl, B3, ?_⟩
    rw [← HM.out trivial]; rfl
end Go.Proofs.YtcncmpgababfjaaDoor

/-
  The program's parser: arguments, an atom.
-/
namespace Go.Proofs.YtcncmpgababfjaaDoor
open Go.RowKit Go.Lib Go.Shelf

theorem But.low {p : Nat} {a b c : World} (x : But p a b) (y : Below a.heap.size b c) : But p a c :=
  ⟨y.os.trans x.os, y.tape.trans x.tape, y.output.trans x.output, Nat.le_trans x.size y.size, fun k hk hn => (y.block k hk).trans (x.block k hk hn)⟩
theorem grown_low {w w' : World} {base : Nat} {e : TypeId} {k n : Nat} {v : Value} {xs : List Value} (h : w.ownsRow base e k v n xs) (g : w.grownBy w' v.ownBlock) (hb : base ≤ w.heap.size) : Below base w w' := by
  refine (Below.refl _ _).grown g hb fun j hj => ?_
  rcases h.2 with ⟨h0, _⟩ | ⟨gg, cap, cur, hv, hb, _⟩
  · rw [h0] at hj; cases hj
  · rw [hv] at hj; cases hj; exact hb
def lenOf : Value → Nat
  | .slice _ n _ => n
  | _ => 0
theorem Tryd.iTerm : (Tryd.prog.info? 25).map (fun i => (i.zero, i.size, i.bytes)) = some (some (.agg #[.string .empty, .bool false, .int .i64 0, .string .empty]), 4, 48) := by kernel_rfl

/-! lists that are read one by one -/
def aprep {α : Type} (ys : List α) : Ps.Rz (List α) → Ps.Rz (List α)
  | .ok (ts, L) => .ok (ys ++ ts, L)
  | .error x => .error x
theorem aprep_nil {α : Type} (r : Ps.Rz (List α)) : aprep [] r = r := by
  rcases r with x | ⟨ts, L⟩ <;> rfl
theorem args_zero {E : Nat} {L : List Lx.Tok} (ys : List Tm) : aprep ys (Ps.args E 0 L) = .error (Ps.many E L) := rfl
theorem args_err {E n : Nat} {L : List Lx.Tok} (ys : List Tm) {x : Nat × Int} (h : Ps.term E L = .error x) : aprep ys (Ps.args E (n + 1) L) = .error x := by
  rw [Ps.args, h]; rfl
theorem args_more {E n : Nat} {L L1 : List Lx.Tok} (ys : List Tm) {t : Tm} (h : Ps.term E L = .ok (t, L1)) (hc : Ps.isT 5 [44] (Ps.hd L1) = true) : aprep ys (Ps.args E (n + 1) L) = aprep (ys ++ [t]) (Ps.args E n L1.tail) := by
  rw [Ps.args, h, Ps.bnd_ok, if_pos hc]
  rcases Ps.args E n L1.tail with x | ⟨ts, L2⟩
  · rfl
  · simp [Ps.bnd, aprep]
theorem args_end {E n : Nat} {L L1 : List Lx.Tok} (ys : List Tm) {t : Tm} (h : Ps.term E L = .ok (t, L1)) (hc : ¬ Ps.isT 5 [44] (Ps.hd L1) = true) : aprep ys (Ps.args E (n + 1) L) = .ok (ys ++ [t], L1) := by
  rw [Ps.args, h, Ps.bnd_ok, if_neg hc]; rfl
theorem bad_many {E : Nat} {L : List Lx.Tok} (h : ¬ Ps.mayT (Ps.hd L) = true) : Ps.bad E L = Ps.many E L := by unfold Ps.bad Ps.many; rw [if_neg h]
theorem term_bad {E : Nat} {L : List Lx.Tok} (h : ¬ Ps.mayT (Ps.hd L) = true) : Ps.term E L = .error (Ps.many E L) := by unfold Ps.term; rw [if_neg h, bad_many h]

def vTerms : List Tm → Value → World → Prop := fun ts u w => ∃ a c, u = .slice a ts.length c ∧ RowT tK 25 w a c ts
theorem vTerms.safe {ts : List Tm} {u : Value} {w w' : World} (h : vTerms ts u w) (s : Safe 25 w w') : vTerms ts u w' := by
  obtain ⟨a, c, h1, h2⟩ := h
  exact ⟨a, c, h1, h2.safe s⟩

set_option maxRecDepth 100000 in
set_option maxHeartbeats 2000000 in
theorem args_at (p E : Nat) (L : List Lx.Tok) (w : World) (h : PAt w p E L) :
    Calls Tryd.prog 52 #[ptr p] w (Does p E w (Ps.args E 4 L) vTerms) := by
  go_enter Tryd.func52, Tryd.ntmps52
  go_wp2_with fail
  go_loopw [2] (fun v wr => ∃ (ys : List Tm) (L' : List Lx.Tok) (n : Nat), ys.length + n = 4 ∧ wr.ownsRow w.heap.size 25 4 v ys.length (ys.flatMap tv) ∧ PAt wr p E L' ∧ But p w wr ∧ Ps.args E 4 L = aprep ys (Ps.args E n L')) (fun v _ => 4 - lenOf v)
  case atStart => exact ⟨[], L, 4, rfl, ⟨rfl, .inl ⟨rfl, rfl⟩⟩, h, But.refl _ _, (aprep_nil _).symm⟩
  case round =>
    obtain ⟨ys, L', n, hn, hown, hp, hb, hans⟩ := hrel
    have HAN := hideP hans
    clear hans
    obtain ⟨a0, c0, rfl, hrow, _⟩ := own_row (D := tK) hown (by omega)
    cases n with
    | zero =>
      have hy : ys.length = 4 := by omega
      have AL := hideP (allow_full p E 4 L' wr hp)
      by_cases hm : Ps.mayT (Ps.hd L') = true
      · have HE := hideP (HAN.out.trans (args_zero ys))
        rw [HE.out]
        simp only [if_pos hm] at AL
        clear HAN hm
        rw [hy] at hown ⊢
        go_wp2_with (first
          | (go_at_call 25; refine AL.out.mono ?_; rintro e w1 ⟨b1, rfl⟩; simp only [Pan]))
        exact ⟨rfl, does_no (hb.below b1)⟩
      · have HE := hideP (HAN.out.trans (args_zero ys))
        rw [HE.out]
        simp only [if_neg hm] at AL
        have T := hideP (fun w hp => term_at p E L' w hp)
        rw [term_bad hm] at T
        clear HAN hm
        rw [hy] at hown ⊢
        go_wp2_with (first
          | (go_at_call 25; refine AL.out.mono ?_; rintro e w1 ⟨b1, rfl⟩; have p1 := hp.below b1)
          | (go_at_call 39; refine (T.out _ p1).mono ?_; rintro e w2 ⟨b2, rfl⟩; simp only [Pan]))
        exact ⟨rfl, does_no ((hb.below b1).trans b2)⟩
    | succ n =>
      have hy : ¬ (ys.length : Int) = 4 := by omega
      have AL := hideP (fun w => allow_few p (ys.length : Int) 4 w hy)
      have T := hideP (term_at p E L' wr hp)
      rcases term_split E L' with ⟨t, R, rfl, ht, hq⟩ | ⟨ht, hq⟩
      · rw [hq] at T
        have hfew : ys.length + [Ps.tm t].length ≤ 879609302220 := by simp only [List.length_cons, List.length_nil]; omega
        have TK := hideP (fun w hp => took_at p E 5 [44] R w hp (by decide))
        by_cases hc : Ps.isT 5 [44] (Ps.hd R) = true
        · have HE := hideP (HAN.out.trans (args_more (n := n) ys hq hc))
          have hR : tookR 5 [44] R = (true, R.tail) := by unfold tookR; rw [if_pos hc]
          rw [hR] at TK
          clear HAN ht hq hc hR
          generalize Ps.tm t = x at *
          go_wp2_with (first
            | (go_at_call 25; refine (AL.out _).mono ?_; rintro e w1 ⟨rfl, rfl⟩)
            | (go_at_call 39; refine T.out.mono ?_; rintro e w2 ⟨b2, ⟨u, rfl, rfl⟩, p2⟩; have O2 := ownsRow_keep hown ((hp.safe (ty := 25) b2 (by decide)).trans (Safe.below (below_alloc w2 (.cells (tv x).toArray 25)))); have R2 := row_new tK w2 (tv x).toArray 25 x rfl; have P3 := p2.below (below_alloc w2 (.cells (tv x).toArray 25)); have b3 := (hb.trans b2).below (below_alloc w2 (.cells (tv x).toArray 25)))
            | (refine wpList_build_one rfl 26 25 _ rfl (tv x) _ 4 48 rfl rfl (by decide) (by decide) Tryd.underlying26 Tryd.iTerm ?_)
            | (at_builtin; refine wpList_append_rec tK _ rfl _ _ 26 25 rfl _ 48 Tryd.underlying26 Tryd.iTerm rfl (by decide) w.heap.size (.slice a0 ys.length c0) ys [x] (some ⟨w2.heap.size, 0, none⟩) 1 1 rfl O2 rfl rfl R2 b3.size hfew ?_; intro v4 w4 o4 g4; have p4 := P3.grown O2 g4 (by decide) (by decide); have b4 := b3.low (grown_low O2 g4 b3.size))
            | (go_at_call 42; refine (TK.out _ p4).mono ?_; rintro e w5 ⟨rfl, p5, b5⟩))
          have O5 := ownsRow_keep o4 (p4.safe (ty := 25) b5 (by decide))
          refine ⟨⟨ys ++ [x], R.tail, n, by simp only [List.length_append, List.length_cons, List.length_nil]; omega, O5, p5, b4.trans b5, HE.out⟩, ?_⟩
          obtain ⟨a5, c5, hv5, _, _⟩ := own_row (D := tK) O5 (by simp only [List.length_append, List.length_cons, List.length_nil]; omega)
          subst hv5
          simp only [lenOf, List.length_append, List.length_cons, List.length_nil]
          show 4 - (ys.length + 1) < 4 - ys.length
          omega
        · have HE := hideP (HAN.out.trans (args_end (n := n) ys hq hc))
          have hR : tookR 5 [44] R = (false, R) := by unfold tookR; rw [if_neg hc]
          rw [hR] at TK
          rw [HE.out]
          clear HAN ht hq hc hR
          generalize Ps.tm t = x at *
          go_wp2_with (first
            | (go_at_call 25; refine (AL.out _).mono ?_; rintro e w1 ⟨rfl, rfl⟩)
            | (go_at_call 39; refine T.out.mono ?_; rintro e w2 ⟨b2, ⟨u, rfl, rfl⟩, p2⟩; have O2 := ownsRow_keep hown ((hp.safe (ty := 25) b2 (by decide)).trans (Safe.below (below_alloc w2 (.cells (tv x).toArray 25)))); have R2 := row_new tK w2 (tv x).toArray 25 x rfl; have P3 := p2.below (below_alloc w2 (.cells (tv x).toArray 25)); have b3 := (hb.trans b2).below (below_alloc w2 (.cells (tv x).toArray 25)))
            | (refine wpList_build_one rfl 26 25 _ rfl (tv x) _ 4 48 rfl rfl (by decide) (by decide) Tryd.underlying26 Tryd.iTerm ?_)
            | (at_builtin; refine wpList_append_rec tK _ rfl _ _ 26 25 rfl _ 48 Tryd.underlying26 Tryd.iTerm rfl (by decide) w.heap.size (.slice a0 ys.length c0) ys [x] (some ⟨w2.heap.size, 0, none⟩) 1 1 rfl O2 rfl rfl R2 b3.size hfew ?_; intro v4 w4 o4 g4; have p4 := P3.grown O2 g4 (by decide) (by decide); have b4 := b3.low (grown_low O2 g4 b3.size))
            | (go_at_call 42; refine (TK.out _ p4).mono ?_; rintro e w5 ⟨rfl, p5, b5⟩))
          have O5 := ownsRow_keep o4 (p4.safe (ty := 25) b5 (by decide))
          obtain ⟨a5, c5, hv5, r5, _⟩ := own_row (D := tK) O5 (by simp only [List.length_append, List.length_cons, List.length_nil]; omega)
          go_ret
          exact does_ok (b4.trans b5) ⟨a5, c5, hv5, r5⟩ p5
      · rw [hq] at T
        have HE := hideP (HAN.out.trans (args_err ys hq))
        rw [HE.out]
        clear HAN ht hq
        go_wp2_with (first
          | (go_at_call 25; refine (AL.out _).mono ?_; rintro e w1 ⟨rfl, rfl⟩)
          | (go_at_call 39; refine T.out.mono ?_; rintro e w2 ⟨b2, rfl⟩; simp only [Pan]))
        exact ⟨rfl, does_no (hb.trans b2)⟩

def vAtom : List UInt8 × List Tm → Value → World → Prop := fun x u w => ∃ a c, u = .tuple #[str x.1, .slice a x.2.length c] ∧ RowT tK 25 w a c x.2
theorem fieldText (t : Lx.Tok) (w : World) : (Instr.field 68 (tg t) 1).run Tryd.prog w = .ok (str t.text) w := by kernel_rfl
set_option maxRecDepth 100000 in
set_option maxHeartbeats 2000000 in
theorem atom_at (p E : Nat) (L : List Lx.Tok) (w : World) (h : PAt w p E L) :
    Calls Tryd.prog 41 #[ptr p] w (Does p E w (Ps.atom E L) vAtom) := by
  have HN := hideP (fun s L w hp => need_at p E 5 s L w hp (by decide))
  have HA := hideP (fun L w hp => args_at p E L w hp)
  have HT := hideP (fun L w hp => took_at p E 5 [41] L w hp (by decide))
  rcases word_split E L with ⟨t, L1, rfl, ht, hq⟩ | ⟨ht, hq⟩
  rotate_left
  · have T := hideP (takeF_no 48 Ps.mayW enter_pred mayBePred_at p E L w h ht)
    rw [show Ps.atom E L = .error (Ps.bad E L) by unfold Ps.atom; rw [hq]; rfl]
    clear ht hq
    go_enter Tryd.func41, Tryd.ntmps41
    go_wp2_with (first
      | (go_at_call 49; refine T.out.mono ?_; rintro e w1 ⟨rfl, b1⟩; simp only [Pan]))
    exact ⟨rfl, does_no b1⟩
  have T := hideP (takeF_yes 48 Ps.mayW enter_pred mayBePred_at p E t L1 w h ht)
  have HE : Hid (Ps.atom E (t :: L1) = Ps.bnd (Ps.need E 5 [40] L1) fun _ L2 => if Ps.isT 5 [41] (Ps.hd L2) = true then .ok ((t.text, []), L2.tail) else Ps.bnd (Ps.args E 4 L2) fun ts L3 => Ps.bnd (Ps.need E 5 [41] L3) fun _ L4 => .ok ((t.text, ts), L4)) := by
    show _ = _
    unfold Ps.atom; rw [hq]; rfl
  rw [HE.out]
  have FT := fieldText t
  clear ht hq HE
  go_enter Tryd.func41, Tryd.ntmps41
  go_wp2_with (first
    | (go_at_call 49; refine T.out.mono ?_; rintro e w1 ⟨rfl, p1, b1⟩))
  refine (HN.out [40] L1 w1 p1).mono ?_
  generalize h2 : Ps.need E 5 [40] L1 = r2
  rintro e w2 ⟨b2, hd⟩
  have B2 := b1.trans b2
  rcases r2 with x | ⟨_, L2⟩
  · obtain rfl := hd
    have H2 := hideP h2; clear h2
    simp only [Pan]
    go_wp2_with fail
    exact ⟨rfl, by rw [H2.out]; exact does_no B2⟩
  have H2 := hideP h2; clear h2
  obtain ⟨⟨_, rfl, rfl⟩, p2⟩ := hd
  go_wp2_with fail
  have TK := HT.out L2 w2 p2
  by_cases hc : Ps.isT 5 [41] (Ps.hd L2) = true
  · have hR : tookR 5 [41] L2 = (true, L2.tail) := by unfold tookR; rw [if_pos hc]
    rw [hR] at TK
    have HC := hideP hc; clear hc
    refine TK.mono ?_
    rintro e w3 ⟨rfl, p3, b3⟩
    go_wp2_with fail
    go_ret2
    rw [H2.out, Ps.bnd_ok, if_pos HC.out]
    exact does_ok (B2.trans b3) ⟨none, 0, rfl, RowT.nil _ _ _⟩ p3
  have hR : tookR 5 [41] L2 = (false, L2) := by unfold tookR; rw [if_neg hc]
  rw [hR] at TK
  have HC := hideP hc
  refine TK.mono ?_
  rintro e w3 ⟨rfl, p3, b3⟩
  have B3 := B2.trans b3
  clear hc hR TK
  go_wp2_with fail
  refine (HA.out L2 w3 p3).mono ?_
  generalize h4 : Ps.args E 4 L2 = r4
  rintro e w4 ⟨b4, hd⟩
  have B4 := B3.trans b4
  rcases r4 with x | ⟨ts, L4⟩
  · obtain rfl := hd
    have H4 := hideP h4; clear h4
    simp only [Pan]
    go_wp2_with fail
    exact ⟨rfl, by rw [H2.out, Ps.bnd_ok, if_neg HC.out, H4.out]; exact does_no B4⟩
  have H4 := hideP h4; clear h4
  obtain ⟨⟨_, rfl, ⟨a4, c4, rfl, r4⟩⟩, p4⟩ := hd
  go_wp2_with fail
  refine (HN.out [41] L4 w4 p4).mono ?_
  generalize h5 : Ps.need E 5 [41] L4 = r5
  rintro e w5 ⟨b5, hd⟩
  have B5 := B4.trans b5
  rcases r5 with x | ⟨_, L5⟩
  · obtain rfl := hd
    have H5 := hideP h5; clear h5
    simp only [Pan]
    go_wp2_with fail
    exact ⟨rfl, by rw [H2.out, Ps.bnd_ok, if_neg HC.out, H4.out, Ps.bnd_ok, H5.out]; exact does_no B5⟩
  have H5 := hideP h5; clear h5
  obtain ⟨⟨_, rfl, rfl⟩, p5⟩ := hd
  go_wp2_with fail
  go_ret2
  rw [H2.out, Ps.bnd_ok, if_neg HC.out, H4.out, Ps.bnd_ok, H5.out, Ps.bnd_ok]
  exact does_ok B5 ⟨a4, c4, rfl, r4.safe (p4.safe b5 (by decide))⟩ p5
end Go.Proofs.YtcncmpgababfjaaDoor

/-
  The program's parser: literals, bodies, rules, programs.
-/
namespace Go.Proofs.YtcncmpgababfjaaDoor
open Go.RowKit Go.Lib Go.Shelf

def lcs (b : Tm) (pr : List UInt8) (s : Value) (a : Tm) : List Value := [str b.v, .bool b.k.num, .int .i64 b.k.n, str b.k.s, str pr, s, str a.v, .bool a.k.num, .int .i64 a.k.n, str a.k.s]
def rcs (b : Tm) (pr : List UInt8) (s : Value) (a : Tm) (l : Value) : List Value := [str b.v, .bool b.k.num, .int .i64 b.k.n, str b.k.s, str pr, s, str a.v, .bool a.k.num, .int .i64 a.k.n, str a.k.s, l]
abbrev zL : Obj := .cells #[.string { data := #[] }, .bool false, .int .i64 0, .string { data := #[] }, .string { data := #[] }, .slice none 0 0, .string { data := #[] }, .bool false, .int .i64 0, .string { data := #[] }] 39
abbrev zR : Obj := .cells #[.string { data := #[] }, .bool false, .int .i64 0, .string { data := #[] }, .string { data := #[] }, .slice none 0 0, .string { data := #[] }, .bool false, .int .i64 0, .string { data := #[] }, .slice none 0 0] 29
theorem new_lit (w : World) : (w.alloc zL).heap[w.heap.size]? = some (.cells (lcs t0 [] (.slice none 0 0) t0).toArray 39) := heap_alloc_new w zL
theorem new_rule (w : World) : (w.alloc zR).heap[w.heap.size]? = some (.cells (rcs t0 [] (.slice none 0 0) t0 (.slice none 0 0)).toArray 29) := heap_alloc_new w zR
def vLit : Lt → Value → World → Prop := fun l u w => ∃ x : Lv, u = lval x ∧ x.l = l ∧ x.At w
def vLits : List Lt → Value → World → Prop := fun ls u w => ∃ a c xs, u = .slice a (List.length xs) c ∧ xs.map Lv.l = ls ∧ RowT lK 39 w a c xs ∧ ∀ x ∈ xs, x.At w
def vRule : Ru → Value → World → Prop := fun r u w => ∃ x : Rv, u = rval x ∧ x.r = r ∧ x.At w
theorem took_eq_yes {k : Int} {s : List UInt8} {L : List Lx.Tok} (h : Ps.isT k s (Ps.hd L) = true) : tookR k s L = (true, L.tail) := by unfold tookR; rw [if_pos h]
theorem took_eq_no {k : Int} {s : List UInt8} {L : List Lx.Tok} (h : ¬ Ps.isT k s (Ps.hd L) = true) : tookR k s L = (false, L) := by unfold tookR; rw [if_neg h]

set_option maxRecDepth 100000 in
set_option maxHeartbeats 4000000 in
theorem literal_at (p E : Nat) (L : List Lx.Tok) (w : World) (h : PAt w p E L) :
    Calls Tryd.prog 53 #[ptr p] w (Does p E w (Ps.lit E L) vLit) := by
  have HM := hideP (fun L w hp => term_at p E L w hp)
  have HN := hideP (fun L w hp => need_at p E 1 [115, 97, 121, 115] L w hp (by decide))
  have HAt := hideP (fun L w hp => atom_at p E L w hp)
  have HT := hideP (fun L w hp => took_at p E 1 [97, 116] L w hp (by decide))
  have HA0 := hideP (fun w h => ahead0 p E L w h)
  have HA1 := hideP (fun w h => ahead1 p E L w h)
  have HP := hideP (fun w => mayBePred_at (Ps.hd L) w)
  have HI := hideP (fun w => is_at (Ps.hd L.tail) 1 [115, 97, 121, 115] w)
  have iN : (Tryd.prog.info? 39).map (·.size) = some 10 := by kernel_rfl
  have hp := h.lt
  have B0 := below_alloc w zL
  have V0 := new_lit w
  have P0 := h.below B0
  have b0 : But p w (w.alloc zL) := But.of_below B0
  have hsaid : Hid (Ps.said L = (!Ps.mayW (Ps.hd L) || Ps.isT 1 [115, 97, 121, 115] (Ps.hd L.tail))) := rfl
  go_enter Tryd.func53, Tryd.ntmps53
  go_wp2_with fail
  refine (HA0.out _ P0).mono ?_
  rintro e z1 ⟨rfl, c1⟩
  generalize hS : w.heap.size = S at *
  have HS := hideP hS; clear hS
  have V1 := below_heap c1 V0
  have P1 := P0.below c1
  have D1 := b0.below c1
  clear V0 P0 b0 c1 B0
  generalize Ps.hd L = t at *
  generalize Ps.mayW t = m at *
  go_wp2_with fail
  refine (HP.out _).mono ?_
  rintro e z2 ⟨rfl, c2⟩
  have V2 := below_heap c2 V1
  have P2 := P1.below c2
  have D2 := D1.below c2
  clear V1 P1 D1 c2
  cases m
  · have HSD := hideP (hsaid.out.trans (show (!false || _) = true from rfl))
    clear hsaid
    go_wp2_with fail
    refine (HM.out L z2 P2).mono ?_
    generalize hx : Ps.term E L = r3
    rintro e z3 ⟨c3, hd⟩
    have D3 := D2.trans c3
    rcases r3 with x | ⟨b, L0⟩
    · obtain rfl := hd
      have HX := hideP hx; clear hx
      simp only [Pan]
      go_wp2_with fail
      exact ⟨rfl, by unfold Ps.lit Ps.by_; rw [if_pos HSD.out, HX.out]; exact does_no D3⟩
    have H3 := hideP hx; clear hx
    obtain ⟨⟨_, rfl, rfl⟩, P3⟩ := hd
    have V3 := c3.heap (show S ≠ p by omega) V2
    go_wp2_with (first
      | (refine wpList_store_rec rfl 25 _ _ rfl S 0 10 4 39 (tv b) (lcs b [] (.slice none 0 0) t0).toArray rfl rfl V3 rfl rfl (by decide) (by kernel_rfl) rfl rfl ?_; intro z4 V4 c4))
    have P4 := P3.but c4 V3 (by decide) (by decide)
    have D4 := D3.fresh c4 (Nat.le_of_eq HS.out)
    refine (HN.out L0 z4 P4).mono ?_
    generalize hx : Ps.need E 1 [115, 97, 121, 115] L0 = r5
    rintro e w1 ⟨c5, hd⟩
    have B1 := D4.trans c5
    rcases r5 with x | ⟨_, L1⟩
    · obtain rfl := hd
      have HX := hideP hx; clear hx
      simp only [Pan]
      go_wp2_with fail
      exact ⟨rfl, by unfold Ps.lit Ps.by_ Ps.says; rw [if_pos HSD.out, H3.out, Ps.bnd_ok, HX.out]; exact does_no B1⟩
    have H5 := hideP hx; clear hx
    obtain ⟨⟨_, rfl, rfl⟩, p1⟩ := hd
    have V1 := c5.heap (show S ≠ p by omega) V4
    have HB : Hid (Ps.by_ E L = .ok (b, L1)) := by show _ = _; unfold Ps.by_ Ps.says; rw [if_pos HSD.out, H3.out, Ps.bnd_ok, H5.out]; rfl
    clear V2 P2 D2 c3 P3 V3 V4 c4 P4 D4 c5 D3 H3 H5 HSD
    go_wp2_with fail
    refine (HAt.out L1 w1 p1).mono ?_
    generalize hx : Ps.atom E L1 = r2
    rintro e w2 ⟨b2, hd⟩
    have B2 := B1.trans b2
    rcases r2 with x | ⟨⟨pr, ts⟩, L2⟩
    · obtain rfl := hd
      have HX := hideP hx; clear hx
      simp only [Pan]
      go_wp2_with fail
      exact ⟨rfl, by unfold Ps.lit; rw [HB.out, Ps.bnd_ok, HX.out]; exact does_no B2⟩
    have H2 := hideP hx; clear hx
    obtain ⟨⟨_, rfl, ⟨a2, c2, rfl, r2⟩⟩, p2⟩ := hd
    have V2 := b2.heap (show S ≠ p by omega) V1
    go_wp2_with (first
      | (refine wpList_store_cel rfl 9 _ _ rfl S 4 10 39 (str pr) (lcs b pr (.slice none 0 0) t0).toArray rfl rfl V2 rfl (by decide) (by kernel_rfl) rfl rfl ?_; intro w3 V3 b3)
      | (refine wpList_store_cel rfl 26 _ _ rfl S 5 10 39 (.slice a2 ts.length c2) (lcs b pr (.slice a2 ts.length c2) t0).toArray rfl rfl V3 rfl (by decide) (by kernel_rfl) rfl rfl ?_; intro w4 V4 b4))
    have p4 := (p2.but b3 V2 (by decide) (by decide)).but b4 V3 (by decide) (by decide)
    have r4 := (r2.safe (Safe.but b3 V2 (by decide))).safe (Safe.but b4 V3 (by decide))
    have B4 := (B2.fresh b3 (Nat.le_of_eq HS.out)).fresh b4 (Nat.le_of_eq HS.out)
    clear V1 p1 B1 b2 p2 r2 B2 V2 V3 b3 b4
    have TK := HT.out L2 w4 p4
    by_cases hc : Ps.isT 1 [97, 116] (Ps.hd L2) = true
    · rw [took_eq_yes hc] at TK
      have HC := hideP hc; clear hc
      refine TK.mono ?_
      rintro e w5 ⟨rfl, p5, b5⟩
      have V5 := b5.heap (show S ≠ p by omega) V4
      have r5 := r4.safe (p4.safe b5 (by decide))
      have B5 := B4.trans b5
      clear TK V4 p4 r4 B4 b5
      go_wp2_with fail
      refine (HM.out L2.tail w5 p5).mono ?_
      generalize hx : Ps.term E L2.tail = r6
      rintro e w6 ⟨b6, hd⟩
      have B6 := B5.trans b6
      rcases r6 with x | ⟨a, L3⟩
      · obtain rfl := hd
        have HX := hideP hx; clear hx
        simp only [Pan]
        go_wp2_with fail
        exact ⟨rfl, by unfold Ps.lit; rw [HB.out, Ps.bnd_ok, H2.out, Ps.bnd_ok]; unfold Ps.opt Ps.at_; rw [if_pos HC.out, HX.out]; exact does_no B6⟩
      have H6 := hideP hx; clear hx
      obtain ⟨⟨_, rfl, rfl⟩, p6⟩ := hd
      have V6 := b6.heap (show S ≠ p by omega) V5
      have r6 := r5.safe (p5.safe b6 (by decide))
      go_wp2_with (first
        | (refine wpList_store_rec rfl 25 _ _ rfl S 6 10 4 39 (tv a) (lcs b pr (.slice a2 ts.length c2) a).toArray rfl rfl V6 rfl rfl (by decide) (by kernel_rfl) rfl rfl ?_; intro w7 V7 b7)
        | (refine wpList_load_all rfl 39 _ rfl S 10 39 (lcs b pr (.slice a2 ts.length c2) a) _ rfl V7 rfl Tryd.underlying39 rfl iN ?_)
        | (refine wpList_store_all rfl 39 _ _ rfl S 10 _ 39 (lcs b pr (.slice a2 ts.length c2) a) rfl rfl V7 rfl rfl iN rfl ?_; intro w8 V8 b8))
      have p8 := (p6.but b7 V6 (by decide) (by decide)).but b8 V7 (by decide) (by decide)
      have r8 := (r6.safe (Safe.but b7 V6 (by decide))).safe (Safe.but b8 V7 (by decide))
      have B8 := (B6.fresh b7 (Nat.le_of_eq HS.out)).fresh b8 (Nat.le_of_eq HS.out)
      refine bodyPost_ret (results_cell (b := S) rfl rfl V8 Tryd.underlying39 rfl (by kernel_rfl)) rfl ?_
      have e : Ps.lit E L = .ok (⟨b, pr, ts, a⟩, L3) := by unfold Ps.lit; rw [HB.out, Ps.bnd_ok, H2.out, Ps.bnd_ok]; unfold Ps.opt Ps.at_; rw [if_pos HC.out, H6.out]; rfl
      rw [e]
      exact does_ok B8 ⟨⟨b, pr, a2, c2, ts, a⟩, rfl, rfl, r8⟩ p8
    · rw [took_eq_no hc] at TK
      have HC := hideP hc; clear hc
      refine TK.mono ?_
      rintro e w5 ⟨rfl, p5, b5⟩
      have V5 := b5.heap (show S ≠ p by omega) V4
      have r5 := r4.safe (p4.safe b5 (by decide))
      have B5 := B4.trans b5
      clear TK V4 p4 r4 B4 b5
      go_wp2_with (first
        | (refine wpList_load_all rfl 39 _ rfl S 10 39 (lcs b pr (.slice a2 ts.length c2) t0) _ rfl V5 rfl Tryd.underlying39 rfl iN ?_)
        | (refine wpList_store_all rfl 39 _ _ rfl S 10 _ 39 (lcs b pr (.slice a2 ts.length c2) t0) rfl rfl V5 rfl rfl iN rfl ?_; intro w8 V8 b8))
      have p8 := p5.but b8 V5 (by decide) (by decide)
      have r8 := r5.safe (Safe.but b8 V5 (by decide))
      have B8 := B5.fresh b8 (Nat.le_of_eq HS.out)
      refine bodyPost_ret (results_cell (b := S) rfl rfl V8 Tryd.underlying39 rfl (by kernel_rfl)) rfl ?_
      have e : Ps.lit E L = .ok (⟨b, pr, ts, t0⟩, L2) := by unfold Ps.lit; rw [HB.out, Ps.bnd_ok, H2.out, Ps.bnd_ok]; unfold Ps.opt Ps.at_; rw [if_neg HC.out]; rfl
      rw [e]
      exact does_ok B8 ⟨⟨b, pr, a2, c2, ts, t0⟩, rfl, rfl, r8⟩ p8
  · go_wp2_with fail
    refine (HA1.out _ P2).mono ?_
    rintro e z3 ⟨rfl, c3⟩
    have V3 := below_heap c3 V2
    have P3 := P2.below c3
    have D3 := D2.below c3
    clear V2 P2 D2 c3
    generalize Ps.hd L.tail = t' at *
    generalize Ps.isT 1 [115, 97, 121, 115] t' = q at *
    go_wp2_with fail
    refine (HI.out _).mono ?_
    rintro e w1 ⟨rfl, c4⟩
    have V9 := below_heap c4 V3
    have P9 := P3.below c4
    have D9 := D3.below c4
    clear V3 P3 D3 c4
    cases q
    · obtain ⟨b, hb0⟩ : ∃ b, b = t0 := ⟨t0, rfl⟩
      obtain ⟨L1, hL1⟩ : ∃ L1, L1 = L := ⟨L, rfl⟩
      have HB : Hid (Ps.by_ E L = .ok (b, L1)) := by show _ = _; rw [hb0, hL1]; unfold Ps.by_; rw [if_neg (by rw [hsaid.out]; decide)]
      have p1 : PAt w1 p E L1 := by rw [hL1]; exact P9
      have V1 : w1.heap[S]? = some (.cells (lcs b [] (.slice none 0 0) t0).toArray 39) := by rw [hb0]; exact V9
      have B1 := D9
      clear hsaid V9 P9 D9 hb0 hL1
      go_wp2_with fail
      refine (HAt.out L1 w1 p1).mono ?_
      generalize hx : Ps.atom E L1 = r2
      rintro e w2 ⟨b2, hd⟩
      have B2 := B1.trans b2
      rcases r2 with x | ⟨⟨pr, ts⟩, L2⟩
      · obtain rfl := hd
        have HX := hideP hx; clear hx
        simp only [Pan]
        go_wp2_with fail
        exact ⟨rfl, by unfold Ps.lit; rw [HB.out, Ps.bnd_ok, HX.out]; exact does_no B2⟩
      have H2 := hideP hx; clear hx
      obtain ⟨⟨_, rfl, ⟨a2, c2, rfl, r2⟩⟩, p2⟩ := hd
      have V2 := b2.heap (show S ≠ p by omega) V1
      go_wp2_with (first
        | (refine wpList_store_cel rfl 9 _ _ rfl S 4 10 39 (str pr) (lcs b pr (.slice none 0 0) t0).toArray rfl rfl V2 rfl (by decide) (by kernel_rfl) rfl rfl ?_; intro w3 V3 b3)
        | (refine wpList_store_cel rfl 26 _ _ rfl S 5 10 39 (.slice a2 ts.length c2) (lcs b pr (.slice a2 ts.length c2) t0).toArray rfl rfl V3 rfl (by decide) (by kernel_rfl) rfl rfl ?_; intro w4 V4 b4))
      have p4 := (p2.but b3 V2 (by decide) (by decide)).but b4 V3 (by decide) (by decide)
      have r4 := (r2.safe (Safe.but b3 V2 (by decide))).safe (Safe.but b4 V3 (by decide))
      have B4 := (B2.fresh b3 (Nat.le_of_eq HS.out)).fresh b4 (Nat.le_of_eq HS.out)
      clear V1 p1 B1 b2 p2 r2 B2 V2 V3 b3 b4
      have TK := HT.out L2 w4 p4
      by_cases hc : Ps.isT 1 [97, 116] (Ps.hd L2) = true
      · rw [took_eq_yes hc] at TK
        have HC := hideP hc; clear hc
        refine TK.mono ?_
        rintro e w5 ⟨rfl, p5, b5⟩
        have V5 := b5.heap (show S ≠ p by omega) V4
        have r5 := r4.safe (p4.safe b5 (by decide))
        have B5 := B4.trans b5
        clear TK V4 p4 r4 B4 b5
        go_wp2_with fail
        refine (HM.out L2.tail w5 p5).mono ?_
        generalize hx : Ps.term E L2.tail = r6
        rintro e w6 ⟨b6, hd⟩
        have B6 := B5.trans b6
        rcases r6 with x | ⟨a, L3⟩
        · obtain rfl := hd
          have HX := hideP hx; clear hx
          simp only [Pan]
          go_wp2_with fail
          exact ⟨rfl, by unfold Ps.lit; rw [HB.out, Ps.bnd_ok, H2.out, Ps.bnd_ok]; unfold Ps.opt Ps.at_; rw [if_pos HC.out, HX.out]; exact does_no B6⟩
        have H6 := hideP hx; clear hx
        obtain ⟨⟨_, rfl, rfl⟩, p6⟩ := hd
        have V6 := b6.heap (show S ≠ p by omega) V5
        have r6 := r5.safe (p5.safe b6 (by decide))
        go_wp2_with (first
          | (refine wpList_store_rec rfl 25 _ _ rfl S 6 10 4 39 (tv a) (lcs b pr (.slice a2 ts.length c2) a).toArray rfl rfl V6 rfl rfl (by decide) (by kernel_rfl) rfl rfl ?_; intro w7 V7 b7)
          | (refine wpList_load_all rfl 39 _ rfl S 10 39 (lcs b pr (.slice a2 ts.length c2) a) _ rfl V7 rfl Tryd.underlying39 rfl iN ?_)
          | (refine wpList_store_all rfl 39 _ _ rfl S 10 _ 39 (lcs b pr (.slice a2 ts.length c2) a) rfl rfl V7 rfl rfl iN rfl ?_; intro w8 V8 b8))
        have p8 := (p6.but b7 V6 (by decide) (by decide)).but b8 V7 (by decide) (by decide)
        have r8 := (r6.safe (Safe.but b7 V6 (by decide))).safe (Safe.but b8 V7 (by decide))
        have B8 := (B6.fresh b7 (Nat.le_of_eq HS.out)).fresh b8 (Nat.le_of_eq HS.out)
        refine bodyPost_ret (results_cell (b := S) rfl rfl V8 Tryd.underlying39 rfl (by kernel_rfl)) rfl ?_
        have e : Ps.lit E L = .ok (⟨b, pr, ts, a⟩, L3) := by unfold Ps.lit; rw [HB.out, Ps.bnd_ok, H2.out, Ps.bnd_ok]; unfold Ps.opt Ps.at_; rw [if_pos HC.out, H6.out]; rfl
        rw [e]
        exact does_ok B8 ⟨⟨b, pr, a2, c2, ts, a⟩, rfl, rfl, r8⟩ p8
      · rw [took_eq_no hc] at TK
        have HC := hideP hc; clear hc
        refine TK.mono ?_
        rintro e w5 ⟨rfl, p5, b5⟩
        have V5 := b5.heap (show S ≠ p by omega) V4
        have r5 := r4.safe (p4.safe b5 (by decide))
        have B5 := B4.trans b5
        clear TK V4 p4 r4 B4 b5
        go_wp2_with (first
          | (refine wpList_load_all rfl 39 _ rfl S 10 39 (lcs b pr (.slice a2 ts.length c2) t0) _ rfl V5 rfl Tryd.underlying39 rfl iN ?_)
          | (refine wpList_store_all rfl 39 _ _ rfl S 10 _ 39 (lcs b pr (.slice a2 ts.length c2) t0) rfl rfl V5 rfl rfl iN rfl ?_; intro w8 V8 b8))
        have p8 := p5.but b8 V5 (by decide) (by decide)
        have r8 := r5.safe (Safe.but b8 V5 (by decide))
        have B8 := B5.fresh b8 (Nat.le_of_eq HS.out)
        refine bodyPost_ret (results_cell (b := S) rfl rfl V8 Tryd.underlying39 rfl (by kernel_rfl)) rfl ?_
        have e : Ps.lit E L = .ok (⟨b, pr, ts, t0⟩, L2) := by unfold Ps.lit; rw [HB.out, Ps.bnd_ok, H2.out, Ps.bnd_ok]; unfold Ps.opt Ps.at_; rw [if_neg HC.out]; rfl
        rw [e]
        exact does_ok B8 ⟨⟨b, pr, a2, c2, ts, t0⟩, rfl, rfl, r8⟩ p8
    · have HSD := hideP (hsaid.out.trans (show (!true || true) = true from rfl))
      clear hsaid
      go_wp2_with fail
      refine (HM.out L w1 P9).mono ?_
      generalize hx : Ps.term E L = r3
      rintro e y3 ⟨c3, hd⟩
      have D3 := D9.trans c3
      rcases r3 with x | ⟨b, L0⟩
      · obtain rfl := hd
        have HX := hideP hx; clear hx
        simp only [Pan]
        go_wp2_with fail
        exact ⟨rfl, by unfold Ps.lit Ps.by_; rw [if_pos HSD.out, HX.out]; exact does_no D3⟩
      have H3 := hideP hx; clear hx
      obtain ⟨⟨_, rfl, rfl⟩, P3⟩ := hd
      have V3 := c3.heap (show S ≠ p by omega) V9
      go_wp2_with (first
        | (refine wpList_store_rec rfl 25 _ _ rfl S 0 10 4 39 (tv b) (lcs b [] (.slice none 0 0) t0).toArray rfl rfl V3 rfl rfl (by decide) (by kernel_rfl) rfl rfl ?_; intro y4 V4 c4))
      have P4 := P3.but c4 V3 (by decide) (by decide)
      have D4 := D3.fresh c4 (Nat.le_of_eq HS.out)
      refine (HN.out L0 y4 P4).mono ?_
      generalize hx : Ps.need E 1 [115, 97, 121, 115] L0 = r5
      rintro e w1 ⟨c5, hd⟩
      have B1 := D4.trans c5
      rcases r5 with x | ⟨_, L1⟩
      · obtain rfl := hd
        have HX := hideP hx; clear hx
        simp only [Pan]
        go_wp2_with fail
        exact ⟨rfl, by unfold Ps.lit Ps.by_ Ps.says; rw [if_pos HSD.out, H3.out, Ps.bnd_ok, HX.out]; exact does_no B1⟩
      have H5 := hideP hx; clear hx
      obtain ⟨⟨_, rfl, rfl⟩, p1⟩ := hd
      have V1 := c5.heap (show S ≠ p by omega) V4
      have HB : Hid (Ps.by_ E L = .ok (b, L1)) := by show _ = _; unfold Ps.by_ Ps.says; rw [if_pos HSD.out, H3.out, Ps.bnd_ok, H5.out]; rfl
      clear V9 P9 D9 c3 P3 V3 V4 c4 P4 D4 c5 D3 H3 H5 HSD
      go_wp2_with fail
      refine (HAt.out L1 w1 p1).mono ?_
      generalize hx : Ps.atom E L1 = r2
      rintro e w2 ⟨b2, hd⟩
      have B2 := B1.trans b2
      rcases r2 with x | ⟨⟨pr, ts⟩, L2⟩
      · obtain rfl := hd
        have HX := hideP hx; clear hx
        simp only [Pan]
        go_wp2_with fail
        exact ⟨rfl, by unfold Ps.lit; rw [HB.out, Ps.bnd_ok, HX.out]; exact does_no B2⟩
      have H2 := hideP hx; clear hx
      obtain ⟨⟨_, rfl, ⟨a2, c2, rfl, r2⟩⟩, p2⟩ := hd
      have V2 := b2.heap (show S ≠ p by omega) V1
      go_wp2_with (first
        | (refine wpList_store_cel rfl 9 _ _ rfl S 4 10 39 (str pr) (lcs b pr (.slice none 0 0) t0).toArray rfl rfl V2 rfl (by decide) (by kernel_rfl) rfl rfl ?_; intro w3 V3 b3)
        | (refine wpList_store_cel rfl 26 _ _ rfl S 5 10 39 (.slice a2 ts.length c2) (lcs b pr (.slice a2 ts.length c2) t0).toArray rfl rfl V3 rfl (by decide) (by kernel_rfl) rfl rfl ?_; intro w4 V4 b4))
      have p4 := (p2.but b3 V2 (by decide) (by decide)).but b4 V3 (by decide) (by decide)
      have r4 := (r2.safe (Safe.but b3 V2 (by decide))).safe (Safe.but b4 V3 (by decide))
      have B4 := (B2.fresh b3 (Nat.le_of_eq HS.out)).fresh b4 (Nat.le_of_eq HS.out)
      clear V1 p1 B1 b2 p2 r2 B2 V2 V3 b3 b4
      have TK := HT.out L2 w4 p4
      by_cases hc : Ps.isT 1 [97, 116] (Ps.hd L2) = true
      · rw [took_eq_yes hc] at TK
        have HC := hideP hc; clear hc
        refine TK.mono ?_
        rintro e w5 ⟨rfl, p5, b5⟩
        have V5 := b5.heap (show S ≠ p by omega) V4
        have r5 := r4.safe (p4.safe b5 (by decide))
        have B5 := B4.trans b5
        clear TK V4 p4 r4 B4 b5
        go_wp2_with fail
        refine (HM.out L2.tail w5 p5).mono ?_
        generalize hx : Ps.term E L2.tail = r6
        rintro e w6 ⟨b6, hd⟩
        have B6 := B5.trans b6
        rcases r6 with x | ⟨a, L3⟩
        · obtain rfl := hd
          have HX := hideP hx; clear hx
          simp only [Pan]
          go_wp2_with fail
          exact ⟨rfl, by unfold Ps.lit; rw [HB.out, Ps.bnd_ok, H2.out, Ps.bnd_ok]; unfold Ps.opt Ps.at_; rw [if_pos HC.out, HX.out]; exact does_no B6⟩
        have H6 := hideP hx; clear hx
        obtain ⟨⟨_, rfl, rfl⟩, p6⟩ := hd
        have V6 := b6.heap (show S ≠ p by omega) V5
        have r6 := r5.safe (p5.safe b6 (by decide))
        go_wp2_with (first
          | (refine wpList_store_rec rfl 25 _ _ rfl S 6 10 4 39 (tv a) (lcs b pr (.slice a2 ts.length c2) a).toArray rfl rfl V6 rfl rfl (by decide) (by kernel_rfl) rfl rfl ?_; intro w7 V7 b7)
          | (refine wpList_load_all rfl 39 _ rfl S 10 39 (lcs b pr (.slice a2 ts.length c2) a) _ rfl V7 rfl Tryd.underlying39 rfl iN ?_)
          | (refine wpList_store_all rfl 39 _ _ rfl S 10 _ 39 (lcs b pr (.slice a2 ts.length c2) a) rfl rfl V7 rfl rfl iN rfl ?_; intro w8 V8 b8))
        have p8 := (p6.but b7 V6 (by decide) (by decide)).but b8 V7 (by decide) (by decide)
        have r8 := (r6.safe (Safe.but b7 V6 (by decide))).safe (Safe.but b8 V7 (by decide))
        have B8 := (B6.fresh b7 (Nat.le_of_eq HS.out)).fresh b8 (Nat.le_of_eq HS.out)
        refine bodyPost_ret (results_cell (b := S) rfl rfl V8 Tryd.underlying39 rfl (by kernel_rfl)) rfl ?_
        have e : Ps.lit E L = .ok (⟨b, pr, ts, a⟩, L3) := by unfold Ps.lit; rw [HB.out, Ps.bnd_ok, H2.out, Ps.bnd_ok]; unfold Ps.opt Ps.at_; rw [if_pos HC.out, H6.out]; rfl
        rw [e]
        exact does_ok B8 ⟨⟨b, pr, a2, c2, ts, a⟩, rfl, rfl, r8⟩ p8
      · rw [took_eq_no hc] at TK
        have HC := hideP hc; clear hc
        refine TK.mono ?_
        rintro e w5 ⟨rfl, p5, b5⟩
        have V5 := b5.heap (show S ≠ p by omega) V4
        have r5 := r4.safe (p4.safe b5 (by decide))
        have B5 := B4.trans b5
        clear TK V4 p4 r4 B4 b5
        go_wp2_with (first
          | (refine wpList_load_all rfl 39 _ rfl S 10 39 (lcs b pr (.slice a2 ts.length c2) t0) _ rfl V5 rfl Tryd.underlying39 rfl iN ?_)
          | (refine wpList_store_all rfl 39 _ _ rfl S 10 _ 39 (lcs b pr (.slice a2 ts.length c2) t0) rfl rfl V5 rfl rfl iN rfl ?_; intro w8 V8 b8))
        have p8 := p5.but b8 V5 (by decide) (by decide)
        have r8 := r5.safe (Safe.but b8 V5 (by decide))
        have B8 := B5.fresh b8 (Nat.le_of_eq HS.out)
        refine bodyPost_ret (results_cell (b := S) rfl rfl V8 Tryd.underlying39 rfl (by kernel_rfl)) rfl ?_
        have e : Ps.lit E L = .ok (⟨b, pr, ts, t0⟩, L2) := by unfold Ps.lit; rw [HB.out, Ps.bnd_ok, H2.out, Ps.bnd_ok]; unfold Ps.opt Ps.at_; rw [if_neg HC.out]; rfl
        rw [e]
        exact does_ok B8 ⟨⟨b, pr, a2, c2, ts, t0⟩, rfl, rfl, r8⟩ p8
end Go.Proofs.YtcncmpgababfjaaDoor
