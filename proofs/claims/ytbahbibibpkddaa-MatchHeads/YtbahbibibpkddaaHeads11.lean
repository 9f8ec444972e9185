/-
  MatchHeads: a rule's head and body, by any bindings, are the document's.
-/
import Derived.Test.YtbahbibibpkddaaY2
import Derived.Test.YtbahbibibpkddaaD5
namespace Go.Proofs.Ytbahbibibpkddaa
open Go.RowKit Go.Lib Go.Shelf

theorem row_lies5 {w : World} {a : Option Addr} {c : Nat} {xs : List Fv} (h : Row fK w a c xs) (hc : c ≤ maxLen) (hf : xs.length ≤ 1954687338211) : Lies w a c xs := ⟨h.room, hc, hf, h.void, h.cells⟩
theorem lies_nil5 (w : World) : Lies w none 0 [] := Lies.nil w
theorem body_len5 {home : Tm} {L : Mt.Env} {ls : List Lt} {zs : List Fv} (h : zs.map Fv.f = (Mt.body home L ls).getD []) : zs.length ≤ ls.length := by
  have : zs.length = (zs.map Fv.f).length := by simp
  rw [this, h]
  cases hb : Mt.body home L ls with
  | none => simp
  | some fs => rw [Option.getD_some, Mt.body_len hb]; exact Nat.le_refl _

set_option maxRecDepth 100000 in
set_option maxHeartbeats 2000000 in
theorem matchHeads_walk (r : Rv) (b : Option Addr) (d : Nat) (L : List Bd) (w : World) (hr : Rv.Aw w r) (tr : TxR r) (hE : Row bK w b d L) :
    Calls Try.prog 5 #[rval r, .slice b L.length d] w fun e w' => e = .returned (.bool true) ∧ Below w.heap.size w w' := by
  have iR : (Try.prog.info? 37).map (·.size) = some 11 := by kernel_rfl
  have iF : (Try.prog.info? 40).map (·.size) = some 4 := by kernel_rfl
  have LV := hideP (fun W => live11_at W)
  have A0 := below_alloc w (.cells (rv r).toArray 37)
  have h0 := heap_alloc_new w (.cells (rv r).toArray 37)
  have TL := hideP (light_at r none 0 [] b d L _ (hr.below A0 (Nat.le_refl _)) tr (Lies.nil _) (fun z hz => by simp at hz) (hE.below A0 (Nat.le_refl _)))
  go_enter Try.func5, Try.ntmps5
  go_wp2_with (refine wpList_load_all rfl 37 _ rfl w.heap.size 11 37 (rv r) _ rfl h0 rfl Try.underlying37 rfl iR ?_)
  refine TL.out.mono ?_
  rintro e w1 ⟨⟨q, rfl, hq⟩, b1⟩
  have B1 := Below.then A0 b1
  have H1 := below_heap b1 h0
  clear h0 A0 TL b1
  cases q with
  | false =>
    go_wp2_with fail
    refine (LV.out _).mono ?_
    rintro e w2 ⟨rfl, b2⟩
    go_wp2_with fail
    go_ret
    exact ⟨rfl, Below.then B1 b2⟩
  | true =>
    obtain ⟨f2, _, l2⟩ := hq rfl
    have fa : r.args.length ≤ 900000 := by have := f2.a; omega
    have fb : r.body.length ≤ 900000 := by have := f2.b; omega
    have fc : ∀ y ∈ r.body, y.args.length ≤ 900000 := fun y hy => by have := f2.c y hy; omega
    have fb2 := f2.b
    clear hq f2
    go_wp2_with (refine wpList_load_all rfl 37 _ rfl w.heap.size 11 37 (rv r) _ rfl H1 rfl Try.underlying37 rfl iR ?_)
    refine (mHead_at r b d L w1 (hr.below B1 (Nat.le_refl _)) (hE.below B1 (Nat.le_refl _)) fa).mono ?_
    rintro e w2 ⟨⟨z2, rfl, R2, e2⟩, b2⟩
    have B2 := Below.then B1 b2
    have H2 := below_heap b2 H1
    clear B1 b2 H1
    have N3 := heap_alloc_new w2 (.cells #[.string { data := #[] }, .string { data := #[] }, .string { data := #[] }, .slice none 0 0] 40)
    go_wp2_with (first | (refine wpList_store_all rfl 40 _ _ rfl w2.heap.size 4 _ 40 (fv z2) rfl rfl N3 rfl rfl iF rfl ?_; intro w3 F3 b3; have T3 := below_tok b3; have H3 := below_heap T3 H2) | (refine wpList_load_all rfl 37 _ rfl w.heap.size 11 37 (rv r) _ rfl H3 rfl Try.underlying37 rfl iR ?_))
    have B3 := Below.then B2 T3
    have R3 := R2.safe (Safe.below T3)
    generalize hU1 : w2.heap.size = U1 at *
    clear hU1 N3 b3 T3 B2 H2 R2
    refine (rHead_at r b d L w3 (hr.below B3 (Nat.le_refl _)) (hE.below B3 (Nat.le_refl _)) fa).mono ?_
    rintro e w4 ⟨⟨z4, rfl, R4, e4⟩, b4⟩
    have B4 := Below.then B3 b4
    have H4 := below_heap b4 H3
    have F4 := below_heap b4 F3
    have S4 := R3.safe (Safe.below b4)
    clear B3 b4 H3 F3 R3
    have N5 := heap_alloc_new w4 (.cells #[.string { data := #[] }, .string { data := #[] }, .string { data := #[] }, .slice none 0 0] 40)
    go_wp2_with (first | (refine wpList_store_all rfl 40 _ _ rfl w4.heap.size 4 _ 40 (fv z4) rfl rfl N5 rfl rfl iF rfl ?_; intro w5 F5 b5; have T5 := below_tok b5; have H5 := below_heap T5 H4) | (refine wpList_load_all rfl 37 _ rfl w.heap.size 11 37 (rv r) _ rfl H5 rfl Try.underlying37 rfl iR ?_))
    have B5 := Below.then B4 T5
    have R5 := R4.safe (Safe.below T5)
    have S5 := S4.safe (Safe.below T5)
    have G5 := below_heap T5 F4
    generalize hU2 : w4.heap.size = U2 at *
    clear hU2 N5 b5 T5 B4 H4 R4 S4 F4
    refine (mBody_at r b d L w5 (hr.below B5 (Nat.le_refl _)) (hE.below B5 (Nat.le_refl _)) fb fc).mono ?_
    rintro e w6 ⟨⟨a6, c6, z6, rfl, L6, _, m6, K6, e6⟩, b6⟩
    have B6 := Below.then B5 b6
    have H6 := below_heap b6 H5
    have F6 := below_heap b6 F5
    have G6 := below_heap b6 G5
    have R6 := R5.safe (Safe.below b6)
    have S6 := S5.safe (Safe.below b6)
    clear B5 b6 H5 F5 G5 R5 S5
    go_wp2_with (refine wpList_load_all rfl 37 _ rfl w.heap.size 11 37 (rv r) _ rfl H6 rfl Try.underlying37 rfl iR ?_)
    refine (rBody_at r b d L w6 (hr.below B6 (Nat.le_refl _)) (hE.below B6 (Nat.le_refl _)) fb fc).mono ?_
    rintro e w7 ⟨⟨a7, c7, z7, rfl, L7, _, m7, K7, e7⟩, b7⟩
    have B7 := Below.then B6 b7
    have F7 := below_heap b7 F6
    have G7 := below_heap b7 G6
    have R7 := R6.safe (Safe.below b7)
    have S7 := S6.safe (Safe.below b7)
    have L7a := L6.below b7 (Nat.le_refl _)
    have K7a := K6.safe (Safe.below b7)
    have n6 := body_len5 e6
    have n7 := body_len5 e7
    rw [show r.r.body.length = r.body.length from List.length_map ..] at n6 n7
    clear B6 b7 H6 F6 G6 R6 S6 L6 K6
    have EF : cF z2.f z4.f = 0 := by rw [cF_zero, e2, e4]
    have EL : likeB (z6.map Fv.f) (z7.map Fv.f) = true := by rw [likeB_iff, e6, e7]
    have TO := hideP (reforder_at z2 z4 w7 (row_args S7.row) (row_args R7.row))
    rw [EF] at TO
    clear e2 e4 e6 e7 EF
    generalize (Mt.head r.r L).isSome = o1 at *
    generalize (Mt.body r.home L r.r.body).isSome = o2 at *
    go_wp2_with (first | (refine wpList_load_all rfl 40 _ rfl U1 4 40 (fv z2) _ rfl G7 rfl Try.underlying40 rfl iF ?_) | (refine wpList_load_all rfl 40 _ rfl U2 4 40 (fv z4) _ rfl F7 rfl Try.underlying40 rfl iF ?_))
    refine TO.out.mono ?_
    rintro e w8 ⟨rfl, g8⟩
    have b8 := g8.below
    have B8 := Below.then B7 b8
    have L8 := row_lies5 (L7a.below b8 (Nat.le_refl _)) m6 (by omega)
    have L8' := row_lies5 (L7.below b8 (Nat.le_refl _)) m7 (by omega)
    have K8 := K7a.safe (Safe.below b8)
    have K8' := K7.safe (Safe.below b8)
    clear TO g8 b8 B7 F7 G7 R7 S7 L7 L7a K7 K7a
    have TK := hideP (like_at a6 a7 c6 c7 z6 z7 w8 L8 L8' (fun z hz => row_args (K8 z hz).row) (fun z hz => row_args (K8' z hz).row))
    rw [EL] at TK
    go_wp2_with fail
    refine TK.out.mono ?_
    rintro e w9 ⟨rfl, g9⟩
    have B9 := Below.then B8 g9.below
    go_wp2_with fail
    refine (LV.out _).mono ?_
    rintro e w10 ⟨rfl, b10⟩
    go_wp2_with fail
    go_ret
    exact ⟨rfl, Below.then B9 b10⟩
end Go.Proofs.Ytbahbibibpkddaa
