/-
  The reference's parser in memory; its functions of one token.
-/
import Derived.Deep.LoopGhost
import Derived.OwnWalk
import Derived.Test.YtcjfdackhgaigaaDoorPi
import Derived.Test.YtcjfdackhgaigaaDoorPk
namespace Go.Proofs.YtcjfdackhgaigaaDoor
open Go.RowKit Go.Lib Go.Shelf

/-- the reference's parser: tokens, the text's length; or the first error and its place -/
structure QAt (w : World) (p E : Nat) (s : Ps.St) : Prop where
  obj : ∃ a c L er bad, w.heap[p]? = some (.cells #[.slice a (List.length L) c, .int .i64 (E : Int), .int .i64 er, .int .i64 bad] 45) ∧ RowT kT 35 w a c L ∧
    ((s = .ok L ∧ er = 0 ∧ Ps.Fit L) ∨ ∃ x : Nat × Int, s = .error x ∧ er = x.2 ∧ x.2 ≠ 0 ∧ bad = (x.1 : Int))
theorem QAt.below {w w' : World} {p E : Nat} {s : Ps.St} (h : QAt w p E s) (hb : Below w.heap.size w w') : QAt w' p E s := by
  obtain ⟨a, c, L, er, bad, h1, h2, h3⟩ := h.obj
  exact ⟨a, c, L, er, bad, below_heap hb h1, h2.safe (Safe.below hb), h3⟩
theorem QAt.lt {w : World} {p E : Nat} {s : Ps.St} (h : QAt w p E s) : p < w.heap.size := by
  obtain ⟨a, c, L, er, bad, h1, h2, h3⟩ := h.obj
  exact heap_lt h1
theorem QAt.safe {ty : TypeId} {w w' : World} {p E : Nat} {s : Ps.St} (h : QAt w p E s) (hb : But p w w') (hn : ty ≠ 45) : Safe ty w w' := by
  obtain ⟨a, c, L, er, bad, h1, _⟩ := h.obj
  exact Safe.but hb h1 hn
theorem QAt.but {w w' : World} {p E g : Nat} {s : Ps.St} {C : Array Value} {T : TypeId} (h : QAt w p E s) (hb : But g w w') (hg : w.heap[g]? = some (.cells C T)) (h1 : T ≠ 45) (h2 : T ≠ 35) : QAt w' p E s := by
  obtain ⟨a, c, L, er, bad, q1, q2, q3⟩ := h.obj
  exact ⟨a, c, L, er, bad, Safe.but hb hg (Ne.symm h1) _ _ q1, q2.safe (Safe.but hb hg (Ne.symm h2)), q3⟩
theorem QAt.grown {w w' : World} {p E base k n : Nat} {s : Ps.St} {T : TypeId} {v : Value} {xs : List Value} (h : QAt w p E s) (ho : w.ownsRow base T k v n xs) (hg : w.grownBy w' v.ownBlock) (h1 : T ≠ 45) (h2 : T ≠ 35) : QAt w' p E s := by
  obtain ⟨a, c, L, er, bad, q1, q2, q3⟩ := h.obj
  exact ⟨a, c, L, er, bad, Safe.grown ho hg (Ne.symm h1) _ _ q1, q2.safe (Safe.grown ho hg (Ne.symm h2)), q3⟩
theorem QAt.ok {w : World} {p E : Nat} {L : List Lx.Tok} (h : QAt w p E (.ok L)) : ∃ a c bad, w.heap[p]? = some (.cells #[.slice a L.length c, .int .i64 (E : Int), .int .i64 0, .int .i64 bad] 45) ∧ RowT kT 35 w a c L ∧ Ps.Fit L := by
  obtain ⟨a, c, L', er, bad, h1, h2, ⟨h3, rfl, h4⟩ | ⟨x, h3, _⟩⟩ := h.obj
  · cases h3; exact ⟨a, c, bad, h1, h2, h4⟩
  · cases h3
theorem QAt.err {w : World} {p E : Nat} {x : Nat × Int} (h : QAt w p E (.error x)) : ∃ a c n, w.heap[p]? = some (.cells #[.slice a n c, .int .i64 (E : Int), .int .i64 x.2, .int .i64 (x.1 : Int)] 45) ∧ x.2 ≠ 0 := by
  obtain ⟨a, c, L', er, bad, h1, h2, ⟨h3, rfl, h4⟩ | ⟨y, h3, rfl, h4, rfl⟩⟩ := h.obj
  · cases h3
  · cases h3; exact ⟨a, c, _, h1, h4⟩
def isOk : Ps.St → Bool
  | .ok _ => true
  | .error _ => false
def nx (E : Nat) : List Lx.Tok → Lx.Tok
  | [] => ⟨0, [], 0, E⟩
  | t :: _ => t
theorem nx_isT (E : Nat) (L : List Lx.Tok) (k : Int) (s : List UInt8) : Ps.isT k s (nx E L) = Ps.isT k s (Ps.hd L) := by cases L <;> rfl
theorem nx_mayT (E : Nat) (L : List Lx.Tok) : Ps.mayT (nx E L) = Ps.mayT (Ps.hd L) := by cases L <;> rfl
theorem nx_mayW (E : Nat) (L : List Lx.Tok) : Ps.mayW (nx E L) = Ps.mayW (Ps.hd L) := by cases L <;> rfl
theorem nx_kind (E : Nat) (L : List Lx.Tok) : (nx E L).kind = (Ps.hd L).kind := by cases L <;> rfl
theorem nx_pl (E : Nat) (L : List Lx.Tok) : (nx E L).pl = Ps.pl E L := by cases L <;> rfl
theorem nx_fit {E : Nat} {L : List Lx.Tok} (h : Ps.Fit L) : (nx E L).kind = 5 → Ps.kept (nx E L).text = false := by
  cases L with
  | nil => intro h; simp [nx] at h
  | cons t L => exact h t (by simp)

theorem ok_q (p E : Nat) (s : Ps.St) (w : World) (h : QAt w p E s) :
    Calls Tryd.prog 16 #[ptr p] w fun e w' => e = .returned (.bool (isOk s)) ∧ w = w' := by
  obtain ⟨a, c, L, er, bad, h1, h2, h3⟩ := h.obj
  have c2 : w.cell? ⟨p, 2, none⟩ = some (.int .i64 er) := by rw [heap_cell h1]; rfl
  have hk : (er == 0) = isOk s := by
    rcases h3 with ⟨rfl, rfl, _⟩ | ⟨x, rfl, rfl, h4, _⟩
    · rfl
    · exact beq_eq_false_iff_ne.2 h4
  have HK := hideP hk
  clear hk h3
  go_enter Tryd.func16, Tryd.ntmps16
  go_wp2_with fail
  go_ret
  exact ⟨ret_bool HK.out, rfl⟩

set_option maxRecDepth 100000 in
set_option maxHeartbeats 1000000 in
theorem next_raw (p E : Nat) (L : List Lx.Tok) (a : Option Addr) (c : Nat) (er bad : Int) (w : World) (h0 : w.heap[p]? = some (.cells #[.slice a L.length c, .int .i64 (E : Int), .int .i64 er, .int .i64 bad] 45)) (rr : RowT kT 35 w a c L) :
    Calls Tryd.prog 27 #[ptr p] w fun e w' => e = .returned (tg (nx E L)) ∧ Below w.heap.size w w' := by
  have iN : (Tryd.prog.info? 35).map (·.size) = some 4 := by kernel_rfl
  have B0 := below_alloc w zT
  have Z0 := heap_alloc_new w zT
  have h1 := below_heap B0 h0
  have r0 := rr.safe (Safe.below B0)
  have c0 : (w.alloc zT).cell? ⟨p, 0, none⟩ = some (.slice a L.length c) := by rw [heap_cell h1]; rfl
  have c1 : (w.alloc zT).cell? ⟨p, 1, none⟩ = some (.int .i64 (E : Int)) := by rw [heap_cell h1]; rfl
  have few := r0.row.few
  cases L with
  | nil =>
    simp only [List.length_nil] at c0
    go_enter Tryd.func27, Tryd.ntmps27
    go_wp2_with (first
      | (refine wpList_store_all rfl 35 _ _ rfl w.heap.size 4 _ 35 (tokv ⟨0, [], 0, E⟩) rfl rfl Z0 rfl rfl iN rfl ?_; intro w3 V3 b3))
    exact bodyPost_ret (results_cell rfl rfl V3 Tryd.underlying35 rfl (by kernel_rfl)) rfl ⟨rfl, below_tok b3⟩
  | cons t L =>
    obtain ⟨P1, O1, rfl⟩ := r0.row.addr (by simp)
    have RG := r0.row.range 0 (by simp)
    rw [Nat.zero_mul, Nat.add_zero] at RG
    simp only [List.length_cons] at c0 few
    have q1 : (((L.length + 1 : Nat) : Int) == 0) = false := beq_eq_false_iff_ne.2 (by omega)
    have q2 : ((L.length : Int) + 1 == 0) = false := beq_eq_false_iff_ne.2 (by omega)
    go_enter Tryd.func27, Tryd.ntmps27
    go_wp2_with (first
      | (refine wpList_load_mid rfl 35 _ rfl P1 O1 rfl (tokv t) _ RG Tryd.underlying35 rfl iN ?_)
      | (refine wpList_store_all rfl 35 _ _ rfl w.heap.size 4 _ 35 (tokv t) rfl rfl Z0 rfl rfl iN rfl ?_; intro w3 V3 b3))
    exact bodyPost_ret (results_cell rfl rfl V3 Tryd.underlying35 rfl (by kernel_rfl)) rfl ⟨rfl, below_tok b3⟩

theorem next_q (p E : Nat) (L : List Lx.Tok) (w : World) (h : QAt w p E (.ok L)) :
    Calls Tryd.prog 27 #[ptr p] w fun e w' => e = .returned (tg (nx E L)) ∧ Below w.heap.size w w' := by
  obtain ⟨a, c, bad, h1, r0, hf⟩ := h.ok
  exact next_raw p E L a c 0 bad w h1 r0
theorem fieldAt (t : Lx.Tok) (w : World) : (Instr.field 35 (tg t) 3).run Tryd.prog w = .ok (.int .i64 (t.pl : Int)) w := by kernel_rfl
theorem fieldKind (t : Lx.Tok) (w : World) : (Instr.field 35 (tg t) 0).run Tryd.prog w = .ok (.int .i64 t.kind) w := by kernel_rfl

set_option maxRecDepth 100000 in
set_option maxHeartbeats 1000000 in
theorem fail_q (p E : Nat) (er : Int) (L : List Lx.Tok) (w : World) (h : QAt w p E (.ok L)) (hne : er ≠ 0) :
    Calls Tryd.prog 18 #[ptr p, .int .i64 er] w fun e w' => e = .returned (.tuple #[]) ∧ QAt w' p E (.error (Ps.pl E L, er)) ∧ But p w w' := by
  obtain ⟨a, c, bad, h1, r0, hf⟩ := h.ok
  have c2 : w.cell? ⟨p, 2, none⟩ = some (.int .i64 0) := by rw [heap_cell h1]; rfl
  have HP := hideP (nx_pl E L)
  have hlt := h.lt
  go_enter Tryd.func18, Tryd.ntmps18
  have FA := fieldAt (nx E L)
  rw [HP.out] at FA
  go_wp2_with (first
    | (refine wpList_store_cel rfl 23 _ _ rfl p 2 4 45 (.int .i64 er) #[.slice a L.length c, .int .i64 (E : Int), .int .i64 er, .int .i64 bad] rfl rfl h1 rfl (by decide) (by kernel_rfl) rfl rfl ?_; intro w1 V1 b1; have r1 := r0.safe (Safe.but b1 h1 (by decide)))
    | (go_at_call 27; refine (next_raw p E L a c er bad w1 V1 r1).mono ?_; rintro e w2 ⟨rfl, b2⟩; have V2 := below_heap b2 V1; have r2 := r1.safe (Safe.below b2))
    | (refine wpList_store_cel rfl 3 _ _ rfl p 3 4 45 (.int .i64 (Ps.pl E L : Int)) #[.slice a L.length c, .int .i64 (E : Int), .int .i64 er, .int .i64 (Ps.pl E L : Int)] rfl rfl V2 rfl (by decide) (by kernel_rfl) rfl rfl ?_; intro w3 V3 b3))
  go_end0
  exact ⟨rfl, ⟨a, c, L, er, _, V3, r2.safe (Safe.but b3 V2 (by decide)), .inr ⟨(Ps.pl E L, er), rfl, rfl, hne, rfl⟩⟩, (b1.below b2).trans b3⟩

theorem tail_q {w w' : World} {p E b o c : Nat} {bad : Int} {t : Lx.Tok} {L : List Lx.Tok} (hp : w.heap[p]? = some (.cells #[.slice (some ⟨b, o, none⟩) (L.length + 1) c, .int .i64 (E : Int), .int .i64 0, .int .i64 bad] 45)) (r : RowT kT 35 w (some ⟨b, o, none⟩) c (t :: L)) (hf : Ps.Fit (t :: L))
    (hb : But p w w') (h' : w'.heap[p]? = some (.cells #[.slice (some (tl b o c)) L.length (c - 1), .int .i64 (E : Int), .int .i64 0, .int .i64 bad] 45)) : QAt w' p E (.ok L) :=
  ⟨_, _, L, 0, bad, h', (row_tl r).safe (Safe.but hb hp (by decide)), .inl ⟨rfl, rfl, hf.tail⟩⟩
set_option maxRecDepth 100000 in
set_option maxHeartbeats 1000000 in
theorem take_q (p E : Nat) (t : Lx.Tok) (L : List Lx.Tok) (w : World) (h : QAt w p E (.ok (t :: L))) :
    Calls Tryd.prog 34 #[ptr p] w fun e w' => e = .returned (.tuple #[]) ∧ QAt w' p E (.ok L) ∧ But p w w' := by
  obtain ⟨a, c, bad, h1, r0, hf⟩ := h.ok
  obtain ⟨P1, O1, rfl⟩ := r0.row.addr (by simp)
  simp only [List.length_cons] at h1
  have few := r0.row.few
  simp only [List.length_cons] at few
  have HS := fun w => slice1 P1 O1 L.length c w
  have c0 : w.cell? ⟨p, 0, none⟩ = some (.slice (some ⟨P1, O1, none⟩) (L.length + 1) c) := by rw [heap_cell h1]; rfl
  go_enter Tryd.func34, Tryd.ntmps34
  go_wp2_with (first
    | (refine wpList_store_cel rfl 31 _ _ rfl p 0 4 45 (.slice (some (tl P1 O1 c)) L.length (c - 1)) #[.slice (some (tl P1 O1 c)) L.length (c - 1), .int .i64 (E : Int), .int .i64 0, .int .i64 bad] rfl rfl h1 rfl (by decide) (by kernel_rfl) rfl rfl ?_; intro w4 V4 b4))
  go_end0
  exact ⟨rfl, tail_q h1 r0 hf b4 V4, b4⟩

theorem kept_q (s : List UInt8) (w : World) : Calls Tryd.prog 28 #[str s] w fun e w' => e = .returned (.bool (Ps.kept s)) ∧ w = w' := by
  simp only [Ps.kept, Ps.says, Ps.to, Ps.at_]
  go_enter Tryd.func28, Tryd.ntmps28
  go_wp2_with fail
  all_goals go_ret
  all_goals refine ⟨ret_bool ?_, rfl⟩
  all_goals simp_all

set_option maxRecDepth 100000 in
set_option maxHeartbeats 1000000 in
theorem is_q (p E : Nat) (L : List Lx.Tok) (s : List UInt8) (w : World) (h : QAt w p E (.ok L)) :
    Calls Tryd.prog 33 #[ptr p, str s] w fun e w' => e = .returned (.bool (Ps.isT 5 s (Ps.hd L) || (Ps.isT 1 s (Ps.hd L) && Ps.kept s))) ∧ Below w.heap.size w w' := by
  have iN : (Tryd.prog.info? 35).map (·.size) = some 4 := by kernel_rfl
  have HN := hideP (next_q p E L w h)
  have HK := hideP (fun w => kept_q s w)
  rw [← nx_isT E, ← nx_isT E]
  generalize Ps.kept s = kp at *
  generalize nx E L = t at *
  obtain ⟨kd, tx, n, pl⟩ := t
  simp only [Ps.isT]
  go_enter Tryd.func33, Tryd.ntmps33
  go_wp2_with (first
    | (go_at_call 27; refine HN.out.mono ?_; rintro e w1 ⟨rfl, b1⟩)
    | (refine wpList_store_all rfl 35 _ _ rfl w1.heap.size 4 _ 35 (tokv ⟨kd, tx, n, pl⟩) rfl rfl (heap_alloc_new w1 zT) rfl rfl iN rfl ?_; intro w2 V2 b2; have B2 := Below.then b1 (below_tok b2); obtain ⟨x1, x2, x3, x4⟩ := tok_blk V2; simp only at x1 x2 x3 x4)
    | (go_at_call 28; refine (HK.out _).mono ?_; rintro e w3 ⟨rfl, rfl⟩))
  all_goals go_ret
  all_goals refine ⟨ret_bool ?_, B2⟩
  all_goals (clear HN HK; simp_all)
theorem is_sign (p E : Nat) (L : List Lx.Tok) (s : List UInt8) (w : World) (h : QAt w p E (.ok L)) (hs : Ps.kept s = false) :
    Calls Tryd.prog 33 #[ptr p, str s] w fun e w' => e = .returned (.bool (Ps.isT 5 s (Ps.hd L))) ∧ Below w.heap.size w w' := by
  have := is_q p E L s w h
  rw [hs, Bool.and_false, Bool.or_false] at this
  exact this
theorem is_word (p E : Nat) (L : List Lx.Tok) (s : List UInt8) (w : World) (h : QAt w p E (.ok L)) (hs : Ps.kept s = true) :
    Calls Tryd.prog 33 #[ptr p, str s] w fun e w' => e = .returned (.bool (Ps.isT 1 s (Ps.hd L))) ∧ Below w.heap.size w w' := by
  have := is_q p E L s w h
  have h5 : Ps.isT 5 s (Ps.hd L) = false := by
    cases h5 : Ps.isT 5 s (Ps.hd L) with
    | false => rfl
    | true =>
      exfalso
      obtain ⟨a, c, bad, h1, r0, hf⟩ := h.ok
      have e1 := nx_fit (E := E) hf
      rw [← nx_isT E] at h5
      simp only [Ps.isT, Bool.and_eq_true, beq_iff_eq] at h5
      have := e1 h5.1
      rw [h5.2, hs] at this
      cases this
  rw [hs, Bool.and_true, h5, Bool.false_or] at this
  exact this

set_option maxRecDepth 100000 in
set_option maxHeartbeats 1000000 in
theorem begins_q (p E : Nat) (L : List Lx.Tok) (w : World) (h : QAt w p E (.ok L)) :
    Calls Tryd.prog 17 #[ptr p] w fun e w' => e = .returned (.bool (Ps.mayT (Ps.hd L))) ∧ Below w.heap.size w w' := by
  have iN : (Tryd.prog.info? 35).map (·.size) = some 4 := by kernel_rfl
  have HN := hideP (next_q p E L w h)
  have HK := hideP (fun w => kept_q (nx E L).text w)
  rw [← nx_mayT E]
  have HM : Hid (Ps.mayT (nx E L) = (((nx E L).kind == 2) || ((nx E L).kind == 3) || (((nx E L).kind == 4) && !((nx E L).text == [])) || (((nx E L).kind == 1) && !Ps.kept (nx E L).text))) := rfl
  generalize Ps.mayT (nx E L) = r at *
  generalize Ps.kept (nx E L).text = kp at *
  generalize nx E L = t at *
  obtain ⟨kd, tx, n, pl⟩ := t
  go_enter Tryd.func17, Tryd.ntmps17
  go_wp2_with (first
    | (go_at_call 27; refine HN.out.mono ?_; rintro e w1 ⟨rfl, b1⟩)
    | (refine wpList_store_all rfl 35 _ _ rfl w1.heap.size 4 _ 35 (tokv ⟨kd, tx, n, pl⟩) rfl rfl (heap_alloc_new w1 zT) rfl rfl iN rfl ?_; intro w2 V2 b2; have B2 := Below.then b1 (below_tok b2); obtain ⟨x1, x2, x3, x4⟩ := tok_blk V2; simp only at x1 x2 x3 x4)
    | (go_at_call 28; refine (HK.out _).mono ?_; rintro e w3 ⟨rfl, rfl⟩))
  all_goals go_ret
  all_goals refine ⟨ret_bool ?_, B2⟩
  all_goals (rw [HM.out]; clear HN HK HM; simp_all)
end Go.Proofs.YtcjfdackhgaigaaDoor
