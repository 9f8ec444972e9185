/-
  The reference's One.
-/
import Derived.Test.YtcjfdackhgaigaaDoorRNu
namespace Go.Proofs.YtcjfdackhgaigaaDoor
open Go.RowKit Go.Lib Go.Shelf

set_option maxRecDepth 100000 in
set_option maxHeartbeats 2000000 in
theorem rone_small (l : List UInt8) (i : Nat) (w : World) (hr : l.length ≤ 281474976710656) (hi : i < l.length) (h1 : Lx.small l[i] = true) (h2 : Lx.great l[i] = false) :
    Calls Tryd.prog 22 #[str l, .int .i64 (i : Int)] w fun e w' => e = tokQ (rres (Lx.word 1 l i)) ∧ Below w.heap.size w w' := by
  have hsz := str_size l
  have hi' : (i : Int) < (l.length : Int) := by omega
  have iN : (Tryd.prog.info? 35).map (·.size) = some 4 := by kernel_rfl
  have hg : ∀ h, ((⟨l.toArray⟩ : ByteArray)[i]'h).toNat = l[i].toNat := fun _ => rfl
  have B0 := below_alloc w zTok
  have H0 := heap_alloc_new w zTok
  have HI := hideP rinner_at
  have hw : Lx.word 1 l i = some (⟨1, Lx.sub l i (Lx.run Lx.inner l i), 0, i⟩, Lx.run Lx.inner l i) := rfl
  have HW := hideP hw
  clear hw
  have C1 := rsmall_at l[i]
  have C2 := rgreat_at l[i]
  rw [h1] at C1
  rw [h2] at C2
  have D1 := hideP C1
  have D2 := hideP C2
  clear C1 C2 h1 h2
  generalize hx : l[i].toNat = x at *
  simp only [hx] at hg
  go_enter Tryd.func22, Tryd.ntmps22
  go_wp2_with (first
    | (go_at_call 37; refine (D1.out _).mono ?_; rintro e w1 ⟨rfl, rfl⟩)
    | (go_at_call 38; refine (D2.out _).mono ?_; rintro e w1 ⟨rfl, rfl⟩))
  go_loop [7] (fun x => ∃ k : Nat, x = .int .i64 (k : Int) ∧ i ≤ k ∧ k ≤ l.length ∧ Lx.run Lx.inner l i = Lx.run Lx.inner l k) (fun x => l.length - (Lib.intOf x).toNat)
  case atStart => exact ⟨i, rfl, Nat.le_refl _, Nat.le_of_lt hi, rfl⟩
  case round =>
    obtain ⟨k, rfl, hik, hk, he⟩ := hrel
    have HE := hideP he
    clear he
    have q1 : (i : Int) ≤ (k : Int) := by omega
    have hsk := extract_sub l i k hk
    have V0 := below_heap (below_alloc (w.alloc zTok) zTok) H0
    have HN := heap_alloc_new (w.alloc zTok) zTok
    rw [show (w.alloc zTok).heap.size = w.heap.size + 1 by simp] at HN
    have B1 := Below.then B0 (below_alloc (w.alloc zTok) zTok)
    have z1 := B1.size
    rcases Nat.lt_or_ge k l.length with hlt | hge
    · have hlt' : (k : Int) < (l.length : Int) := by omega
      cases hb : Lx.inner l[k] with
      | true =>
        have D := HI.out l[k]
        rw [hb] at D
        have A := hideP D
        have S1 := hideP (Lx.run_step (p := Lx.inner) (l := l) (i := k) hlt hb)
        clear D hb
        go_wp2_with (go_at_call 39; refine (A.out _).mono ?_; rintro e w1 ⟨rfl, rfl⟩)
        refine ⟨⟨k + 1, by go_num, by omega, by omega, ?_⟩, by simp [Lib.intOf]; omega⟩
        rw [HE.out, S1.out]
      | false =>
        have D := HI.out l[k]
        rw [hb] at D
        have A := hideP D
        have hrun := HE.out.trans (Lx.run_stop (p := Lx.inner) (l := l) (i := k) hlt hb)
        rw [hrun] at HW
        clear D hb hrun HE
        go_wp2_with (first
          | (go_at_call 39; refine (A.out _).mono ?_; rintro e w1 ⟨rfl, rfl⟩)
          | (go_at_call 38; refine (D2.out _).mono ?_; rintro e w1 ⟨rfl, rfl⟩)
          | (refine wpList_store_all rfl 35 _ _ rfl (w.heap.size + 1) 4 _ 35 [.int .i64 1, str (Lx.sub l i k), .int .i64 0, .int .i64 (i : Int)] rfl rfl HN rfl rfl iN rfl ?_; intro w2 U2 b2; have V2 := b2.heap (by omega) V0; have B2 := B1.trans (b2.lower (Nat.le_succ _) z1))
          | (refine wpList_load_all rfl 35 _ rfl (w.heap.size + 1) 4 35 [.int .i64 1, str (Lx.sub l i k), .int .i64 0, .int .i64 (i : Int)] _ rfl U2 rfl Tryd.underlying35 rfl iN ?_)
          | (refine wpList_store_all rfl 35 _ _ rfl w.heap.size 4 _ 35 [.int .i64 1, str (Lx.sub l i k), .int .i64 0, .int .i64 (i : Int)] rfl rfl V2 rfl rfl iN rfl ?_; intro w4 H4 b4; have BE := B2.trans (b4.lower (Nat.le_refl _) B2.size)))
        refine bodyPost_ret (results_cell_one rfl rfl H4 Tryd.underlying35 rfl (by kernel_rfl)) rfl ⟨?_, BE⟩
        rw [HW.out]; rfl
    · have hlt' : ¬ (k : Int) < (l.length : Int) := by omega
      have hrun := HE.out.trans (Lx.run_end hge)
      rw [hrun] at HW
      clear hrun HE
      go_wp2_with (first
        | (go_at_call 38; refine (D2.out _).mono ?_; rintro e w1 ⟨rfl, rfl⟩)
        | (refine wpList_store_all rfl 35 _ _ rfl (w.heap.size + 1) 4 _ 35 [.int .i64 1, str (Lx.sub l i k), .int .i64 0, .int .i64 (i : Int)] rfl rfl HN rfl rfl iN rfl ?_; intro w2 U2 b2; have V2 := b2.heap (by omega) V0; have B2 := B1.trans (b2.lower (Nat.le_succ _) z1))
        | (refine wpList_load_all rfl 35 _ rfl (w.heap.size + 1) 4 35 [.int .i64 1, str (Lx.sub l i k), .int .i64 0, .int .i64 (i : Int)] _ rfl U2 rfl Tryd.underlying35 rfl iN ?_)
        | (refine wpList_store_all rfl 35 _ _ rfl w.heap.size 4 _ 35 [.int .i64 1, str (Lx.sub l i k), .int .i64 0, .int .i64 (i : Int)] rfl rfl V2 rfl rfl iN rfl ?_; intro w4 H4 b4; have BE := B2.trans (b4.lower (Nat.le_refl _) B2.size)))
      refine bodyPost_ret (results_cell_one rfl rfl H4 Tryd.underlying35 rfl (by kernel_rfl)) rfl ⟨?_, BE⟩
      rw [HW.out]; rfl

set_option maxRecDepth 100000 in
set_option maxHeartbeats 2000000 in
theorem rone_great (l : List UInt8) (i : Nat) (w : World) (hr : l.length ≤ 281474976710656) (hi : i < l.length) (h1 : Lx.small l[i] = false) (h2 : Lx.great l[i] = true) :
    Calls Tryd.prog 22 #[str l, .int .i64 (i : Int)] w fun e w' => e = tokQ (rres (Lx.word 2 l i)) ∧ Below w.heap.size w w' := by
  have hsz := str_size l
  have hi' : (i : Int) < (l.length : Int) := by omega
  have iN : (Tryd.prog.info? 35).map (·.size) = some 4 := by kernel_rfl
  have hg : ∀ h, ((⟨l.toArray⟩ : ByteArray)[i]'h).toNat = l[i].toNat := fun _ => rfl
  have B0 := below_alloc w zTok
  have H0 := heap_alloc_new w zTok
  have HI := hideP rinner_at
  have hw : Lx.word 2 l i = some (⟨2, Lx.sub l i (Lx.run Lx.inner l i), 0, i⟩, Lx.run Lx.inner l i) := rfl
  have HW := hideP hw
  clear hw
  have C1 := rsmall_at l[i]
  have C2 := rgreat_at l[i]
  rw [h1] at C1
  rw [h2] at C2
  have D1 := hideP C1
  have D2 := hideP C2
  clear C1 C2 h1 h2
  generalize hx : l[i].toNat = x at *
  simp only [hx] at hg
  go_enter Tryd.func22, Tryd.ntmps22
  go_wp2_with (first
    | (go_at_call 37; refine (D1.out _).mono ?_; rintro e w1 ⟨rfl, rfl⟩)
    | (go_at_call 38; refine (D2.out _).mono ?_; rintro e w1 ⟨rfl, rfl⟩))
  go_loop [7] (fun x => ∃ k : Nat, x = .int .i64 (k : Int) ∧ i ≤ k ∧ k ≤ l.length ∧ Lx.run Lx.inner l i = Lx.run Lx.inner l k) (fun x => l.length - (Lib.intOf x).toNat)
  case atStart => exact ⟨i, rfl, Nat.le_refl _, Nat.le_of_lt hi, rfl⟩
  case round =>
    obtain ⟨k, rfl, hik, hk, he⟩ := hrel
    have HE := hideP he
    clear he
    have q1 : (i : Int) ≤ (k : Int) := by omega
    have hsk := extract_sub l i k hk
    have V0 := below_heap (below_alloc (w.alloc zTok) zTok) H0
    have HN := heap_alloc_new (w.alloc zTok) zTok
    rw [show (w.alloc zTok).heap.size = w.heap.size + 1 by simp] at HN
    have B1 := Below.then B0 (below_alloc (w.alloc zTok) zTok)
    have z1 := B1.size
    rcases Nat.lt_or_ge k l.length with hlt | hge
    · have hlt' : (k : Int) < (l.length : Int) := by omega
      cases hb : Lx.inner l[k] with
      | true =>
        have D := HI.out l[k]
        rw [hb] at D
        have A := hideP D
        have S1 := hideP (Lx.run_step (p := Lx.inner) (l := l) (i := k) hlt hb)
        clear D hb
        go_wp2_with (go_at_call 39; refine (A.out _).mono ?_; rintro e w1 ⟨rfl, rfl⟩)
        refine ⟨⟨k + 1, by go_num, by omega, by omega, ?_⟩, by simp [Lib.intOf]; omega⟩
        rw [HE.out, S1.out]
      | false =>
        have D := HI.out l[k]
        rw [hb] at D
        have A := hideP D
        have hrun := HE.out.trans (Lx.run_stop (p := Lx.inner) (l := l) (i := k) hlt hb)
        rw [hrun] at HW
        clear D hb hrun HE
        go_wp2_with (first
          | (go_at_call 39; refine (A.out _).mono ?_; rintro e w1 ⟨rfl, rfl⟩)
          | (go_at_call 38; refine (D2.out _).mono ?_; rintro e w1 ⟨rfl, rfl⟩)
          | (refine wpList_store_all rfl 35 _ _ rfl (w.heap.size + 1) 4 _ 35 [.int .i64 1, str (Lx.sub l i k), .int .i64 0, .int .i64 (i : Int)] rfl rfl HN rfl rfl iN rfl ?_; intro w2 U2 b2; have V2 := b2.heap (by omega) V0; have B2 := B1.trans (b2.lower (Nat.le_succ _) z1))
          | (refine wpList_store_cel rfl 3 _ _ rfl (w.heap.size + 1) 0 4 35 (.int .i64 2) #[.int .i64 2, str (Lx.sub l i k), .int .i64 0, .int .i64 (i : Int)] rfl rfl U2 rfl (by decide) (by kernel_rfl) rfl rfl ?_; intro w3 U3 b3; have V3 := b3.heap (by omega) V2; have B3 := B2.trans (b3.lower (Nat.le_succ _) B2.size))
          | (refine wpList_load_all rfl 35 _ rfl (w.heap.size + 1) 4 35 [.int .i64 2, str (Lx.sub l i k), .int .i64 0, .int .i64 (i : Int)] _ rfl U3 rfl Tryd.underlying35 rfl iN ?_)
          | (refine wpList_store_all rfl 35 _ _ rfl w.heap.size 4 _ 35 [.int .i64 2, str (Lx.sub l i k), .int .i64 0, .int .i64 (i : Int)] rfl rfl V3 rfl rfl iN rfl ?_; intro w4 H4 b4; have BE := B3.trans (b4.lower (Nat.le_refl _) B3.size)))
        refine bodyPost_ret (results_cell_one rfl rfl H4 Tryd.underlying35 rfl (by kernel_rfl)) rfl ⟨?_, BE⟩
        rw [HW.out]; rfl
    · have hlt' : ¬ (k : Int) < (l.length : Int) := by omega
      have hrun := HE.out.trans (Lx.run_end hge)
      rw [hrun] at HW
      clear hrun HE
      go_wp2_with (first
        | (go_at_call 38; refine (D2.out _).mono ?_; rintro e w1 ⟨rfl, rfl⟩)
        | (refine wpList_store_all rfl 35 _ _ rfl (w.heap.size + 1) 4 _ 35 [.int .i64 1, str (Lx.sub l i k), .int .i64 0, .int .i64 (i : Int)] rfl rfl HN rfl rfl iN rfl ?_; intro w2 U2 b2; have V2 := b2.heap (by omega) V0; have B2 := B1.trans (b2.lower (Nat.le_succ _) z1))
        | (refine wpList_store_cel rfl 3 _ _ rfl (w.heap.size + 1) 0 4 35 (.int .i64 2) #[.int .i64 2, str (Lx.sub l i k), .int .i64 0, .int .i64 (i : Int)] rfl rfl U2 rfl (by decide) (by kernel_rfl) rfl rfl ?_; intro w3 U3 b3; have V3 := b3.heap (by omega) V2; have B3 := B2.trans (b3.lower (Nat.le_succ _) B2.size))
        | (refine wpList_load_all rfl 35 _ rfl (w.heap.size + 1) 4 35 [.int .i64 2, str (Lx.sub l i k), .int .i64 0, .int .i64 (i : Int)] _ rfl U3 rfl Tryd.underlying35 rfl iN ?_)
        | (refine wpList_store_all rfl 35 _ _ rfl w.heap.size 4 _ 35 [.int .i64 2, str (Lx.sub l i k), .int .i64 0, .int .i64 (i : Int)] rfl rfl V3 rfl rfl iN rfl ?_; intro w4 H4 b4; have BE := B3.trans (b4.lower (Nat.le_refl _) B3.size)))
      refine bodyPost_ret (results_cell_one rfl rfl H4 Tryd.underlying35 rfl (by kernel_rfl)) rfl ⟨?_, BE⟩
      rw [HW.out]; rfl

end Go.Proofs.YtcjfdackhgaigaaDoor
