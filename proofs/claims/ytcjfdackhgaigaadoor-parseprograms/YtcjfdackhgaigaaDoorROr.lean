/-
  The reference's One where no word begins; and wherever.
-/
import Derived.Test.YtcjfdackhgaigaaDoorROn
namespace Go.Proofs.YtcjfdackhgaigaaDoor
open Go.RowKit Go.Lib Go.Shelf

theorem tokQ_open {P : Program} {f : FuncId} {args : Array Value} {w : World} {r : Lx.Tok × Int} {B : World → Prop} (h : Calls P f args w fun e w' => e = tokQ r ∧ B w') :
    Calls P f args w fun e w' => e = .returned (.tuple #[.agg (tokv r.1).toArray, .int .i64 r.2]) ∧ B w' := h

set_option maxRecDepth 100000 in
set_option maxHeartbeats 2000000 in
theorem rone_num (l : List UInt8) (i : Nat) (w : World) (hr : l.length ≤ 281474976710656) (hi : i < l.length) (h1 : Lx.small l[i] = false) (h2 : Lx.great l[i] = false) (h3 : (Lx.digit l[i] || decide (l[i].toNat = 45)) = true) :
    Calls Tryd.prog 22 #[str l, .int .i64 (i : Int)] w fun e w' => e = tokQ (rres (Lx.number l i)) ∧ Below w.heap.size w w' := by
  have hsz := str_size l
  have hi' : (i : Int) < (l.length : Int) := by omega
  have iN : (Tryd.prog.info? 35).map (·.size) = some 4 := by kernel_rfl
  have hg : ∀ h, ((⟨l.toArray⟩ : ByteArray)[i]'h).toNat = l[i].toNat := fun _ => rfl
  have B0 := below_alloc w zTok
  have H0 := heap_alloc_new w zTok
  have C1 := rsmall_at l[i]
  have C2 := rgreat_at l[i]
  have D3 := hideP (rdigit_at l[i])
  rw [h1] at C1
  rw [h2] at C2
  have D1 := hideP C1
  have D2 := hideP C2
  have NU := hideP (fun w => rnumber_at l i w hr hi)
  have h3' : Lx.digit l[i] = true ∨ l[i].toNat = 45 := by simpa using h3
  have H3 := hideP h3'
  clear C1 C2 h1 h2 h3 h3'
  generalize rres (Lx.number l i) = r at *
  generalize Lx.digit l[i] = s3 at *
  generalize hx : l[i].toNat = x at *
  simp only [hx] at hg
  go_enter Tryd.func22, Tryd.ntmps22
  go_upto_region 10 with (first
    | (go_at_call 37; refine (D1.out _).mono ?_; rintro e w1 ⟨rfl, rfl⟩)
    | (go_at_call 38; refine (D2.out _).mono ?_; rintro e w1 ⟨rfl, rfl⟩))
  rcases H3.out with rfl | h45
  · go_wp2_with (first
      | (go_at_call 40; refine (D3.out _).mono ?_; rintro e w1 ⟨rfl, rfl⟩)
      | (go_at_call 41; refine (tokQ_open (NU.out _)).mono ?_; rintro e w1 ⟨rfl, b1⟩; have H1 := below_heap b1 H0; have B1 := Below.then B0 b1)
      | (refine wpList_store_all rfl 35 _ _ rfl w.heap.size 4 _ 35 _ rfl rfl H1 rfl rfl iN rfl ?_; intro w4 H4 b4))
    refine bodyPost_ret (results_cell_one rfl rfl H4 Tryd.underlying35 rfl (by kernel_rfl)) rfl ⟨rfl, B1.trans (b4.lower (Nat.le_refl _) B1.size)⟩
  · have q : ((x : Int) == 45) = true := by simp; omega
    clear h45
    go_wp2_with (first
      | (go_at_call 40; refine (D3.out _).mono ?_; rintro e w1 ⟨rfl, rfl⟩)
      | (go_at_call 41; refine (tokQ_open (NU.out _)).mono ?_; rintro e w1 ⟨rfl, b1⟩; have H1 := below_heap b1 H0; have B1 := Below.then B0 b1)
      | (refine wpList_store_all rfl 35 _ _ rfl w.heap.size 4 _ 35 _ rfl rfl H1 rfl rfl iN rfl ?_; intro w4 H4 b4))
    all_goals refine bodyPost_ret (results_cell_one rfl rfl H4 Tryd.underlying35 rfl (by kernel_rfl)) rfl ⟨rfl, B1.trans (b4.lower (Nat.le_refl _) B1.size)⟩

set_option maxRecDepth 100000 in
set_option maxHeartbeats 2000000 in
theorem rone_quote (l : List UInt8) (i : Nat) (w : World) (hr : l.length ≤ 281474976710656) (hi : i < l.length) (h1 : Lx.small l[i] = false) (h2 : Lx.great l[i] = false) (h3 : Lx.digit l[i] = false) (h4 : l[i].toNat = 34) :
    Calls Tryd.prog 22 #[str l, .int .i64 (i : Int)] w fun e w' => e = tokQ (rres (Lx.quote l i)) ∧ Below w.heap.size w w' := by
  have hsz := str_size l
  have hi' : (i : Int) < (l.length : Int) := by omega
  have iN : (Tryd.prog.info? 35).map (·.size) = some 4 := by kernel_rfl
  have hg : ∀ h, ((⟨l.toArray⟩ : ByteArray)[i]'h).toNat = 34 := fun _ => h4
  have B0 := below_alloc w zTok
  have H0 := heap_alloc_new w zTok
  have C1 := rsmall_at l[i]
  have C2 := rgreat_at l[i]
  have C3 := rdigit_at l[i]
  rw [h1, h4] at C1
  rw [h2, h4] at C2
  rw [h3, h4] at C3
  have D1 := hideP C1
  have D2 := hideP C2
  have D3 := hideP C3
  have NU := hideP (fun w => rquote_at l i w hr hi)
  clear C1 C2 C3 h1 h2 h3 h4
  generalize rres (Lx.quote l i) = r at *
  go_enter Tryd.func22, Tryd.ntmps22
  go_wp2_with (first
    | (go_at_call 37; refine (D1.out _).mono ?_; rintro e w1 ⟨rfl, rfl⟩)
    | (go_at_call 38; refine (D2.out _).mono ?_; rintro e w1 ⟨rfl, rfl⟩)
    | (go_at_call 40; refine (D3.out _).mono ?_; rintro e w1 ⟨rfl, rfl⟩)
    | (go_at_call 42; refine (tokQ_open (NU.out _)).mono ?_; rintro e w1 ⟨rfl, b1⟩; have H1 := below_heap b1 H0; have B1 := Below.then B0 b1)
    | (refine wpList_store_all rfl 35 _ _ rfl w.heap.size 4 _ 35 _ rfl rfl H1 rfl rfl iN rfl ?_; intro w4 H4 b4))
  refine bodyPost_ret (results_cell_one rfl rfl H4 Tryd.underlying35 rfl (by kernel_rfl)) rfl ⟨rfl, B1.trans (b4.lower (Nat.le_refl _) B1.size)⟩
end Go.Proofs.YtcjfdackhgaigaaDoor
