/-
  The walk of RingSigns: what is signed is verified by its signer, for its domain and bytes, is in the book, and signed again it has the same tag and is in the book once; another text of the same signer is not made by it.
-/
import Derived.Test.YtfpdiafedoppnaaDoorFew6
import Derived.Test.YtfpdiafedoppnaaDoorEq6
import Derived.Test.YtfpdiafedoppnaaDoorQb
import Derived.Deep.DeepCutAuto
namespace Go.Proofs.YtfpdiafedoppnaaDoor
open Go.RowKit

theorem rows2 (w : World) (x y : Av) (c : Array Value) (h : c.toList = av x ++ av y) (t : TypeId) : Row aK (w.alloc (.cells c t)) (some ⟨w.heap.size, 0, none⟩) 2 [x, y] :=
  rows_new aK w c t [x, y] (by rw [h]; simp [aK]) (by simp)
theorem sg_first (N : List (List UInt8)) (who dom txt : List UInt8) (hw : who ∈ N) (hs : dom.length + txt.length ≤ 65536) : sgE N [] who dom txt = 0 := by
  unfold sgE; rw [if_pos hw, if_neg (by omega), if_neg (by simp), if_neg (by simp)]
theorem sg_again (N : List (List UInt8)) (who dom txt : List UInt8) (hw : who ∈ N) (hs : dom.length + txt.length ≤ 65536) : sgE N [(who, dom, txt)] who dom txt = 0 := by
  unfold sgE; rw [if_pos hw, if_neg (by omega), if_pos (by simp)]

set_option maxRecDepth 100000 in
set_option maxHeartbeats 6400000 in
theorem ringSigns_walk (a : Option Addr) (c : Nat) (N : List (List UInt8)) (x y : Av) (w : World) (hL : Laid w) (h : Row sK w a c N) (_ : N.length * 16 ≤ reachBytes) (hx : Av.At w x) (hy : Av.At w y) :
    Calls Tryd.prog 5 #[.slice a N.length c, x.val, y.val] w fun e w' => e = .returned (.bool true) ∧ Below w.heap.size w w' := by
  go_enter Tryd.func5, Tryd.ntmps5
  have oX := act_new w x
  have s0 : (w.alloc (.cells #[.int .i64 x.kind, str x.who, str x.dom, .slice x.ta x.txt.length x.tc, .slice x.ga x.tag.length x.gc] 40)).heap.size = w.heap.size + 1 := by simp
  have oY := act_new (w.alloc (.cells #[.int .i64 x.kind, str x.who, str x.dom, .slice x.ta x.txt.length x.tc, .slice x.ga x.tag.length x.gc] 40)) y
  rw [s0] at oY
  have B0 := below_alloc w (.cells #[.int .i64 x.kind, str x.who, str x.dom, .slice x.ta x.txt.length x.tc, .slice x.ga x.tag.length x.gc] 40)
  go_wp2_with fail
  have AX := oX.below (below_alloc _ (.cells #[.int .i64 y.kind, str y.who, str y.dom, .slice y.ta y.txt.length y.tc, .slice y.ga y.tag.length y.gc] 40))
  have B1 := Below.then B0 (below_alloc _ (.cells #[.int .i64 y.kind, str y.who, str y.dom, .slice y.ta y.txt.length y.tc, .slice y.ga y.tag.length y.gc] 40))
  have s1 : ((w.alloc (.cells #[.int .i64 x.kind, str x.who, str x.dom, .slice x.ta x.txt.length x.tc, .slice x.ga x.tag.length x.gc] 40)).alloc (.cells #[.int .i64 y.kind, str y.who, str y.dom, .slice y.ta y.txt.length y.tc, .slice y.ga y.tag.length y.gc] 40)).heap.size = w.heap.size + 1 + 1 := by simp
  generalize (w.alloc (.cells #[.int .i64 x.kind, str x.who, str x.dom, .slice x.ta x.txt.length x.tc, .slice x.ga x.tag.length x.gc] 40)).alloc (.cells #[.int .i64 y.kind, str y.who, str y.dom, .slice y.ta y.txt.length y.tc, .slice y.ga y.tag.length y.gc] 40) = w1 at AX oY B1 s1 ⊢
  clear oX s0 B0
  have hr := rows2 w1 x y #[.int .i64 x.kind, str x.who, str x.dom, .slice x.ta x.txt.length x.tc, .slice x.ga x.tag.length x.gc, .int .i64 y.kind, str y.who, str y.dom, .slice y.ta y.txt.length y.tc, .slice y.ga y.tag.length y.gc] rfl 40
  rw [s1] at hr
  have b2 := below_alloc w1 (.cells #[.int .i64 x.kind, str x.who, str x.dom, .slice x.ta x.txt.length x.tc, .slice x.ga x.tag.length x.gc, .int .i64 y.kind, str y.who, str y.dom, .slice y.ta y.txt.length y.tc, .slice y.ga y.tag.length y.gc] 40)
  have AX2 := AX.below b2; have AY2 := oY.below b2; have B2 := Below.then B1 b2
  generalize w1.alloc (.cells #[.int .i64 x.kind, str x.who, str x.dom, .slice x.ta x.txt.length x.tc, .slice x.ga x.tag.length x.gc, .int .i64 y.kind, str y.who, str y.dom, .slice y.ta y.txt.length y.tc, .slice y.ga y.tag.length y.gc] 40) = w2 at hr AX2 AY2 B2 b2 ⊢
  clear b2 AX oY B1 s1
  refine (few6 w2 (some ⟨w.heap.size + 1 + 1, 0, none⟩) 2 2 [x, y] rfl hr (fun z hz => by
    simp only [List.mem_cons, List.not_mem_nil, or_false] at hz
    rcases hz with rfl | rfl
    · exact hx.below B2
    · exact hy.below B2)).mono ?_
  rintro _ w3 ⟨⟨d, rfl, hd⟩, b3⟩
  have B3 := Below.then B2 b3
  have AX := AX2.below b3; have AY := AY2.below b3
  clear AX2 AY2 B2 b3 hr
  cases d with
  | false =>
    go_wp2_with fail
    refine (live6 w3 (hL.below B3)).mono ?_
    rintro _ w9 ⟨rfl, b9⟩
    go_wp2_with fail
    go_ret
    exact ⟨rfl, Below.then B3 b9⟩
  | true =>
  have zx : x.sz ≤ 9000 := hd rfl x (by simp)
  have zy : y.sz ≤ 9000 := hd rfl y (by simp)
  clear hd
  go_wp2_with fail
  by_cases hb : N.length ≤ 6
  rotate_left
  · refine (new6_big w3 a c 7 N hb).mono ?_
    rintro _ w4 ⟨rfl, rfl⟩
    go_wp2_with fail
    refine (live6 w3 (hL.below B3)).mono ?_
    rintro _ w9 ⟨rfl, b9⟩
    go_wp2_with fail
    go_ret
    exact ⟨rfl, Below.then B3 b9⟩
  by_cases hm : may N
  rotate_left
  · refine (new6_arg w3 a c 7 N (h.below B3 (Nat.le_refl _)) hb hm).mono ?_
    rintro _ w4 ⟨rfl, rfl⟩
    go_wp2_with fail
    refine (live6 w3 (hL.below B3)).mono ?_
    rintro _ w9 ⟨rfl, b9⟩
    go_wp2_with fail
    go_ret
    exact ⟨rfl, Below.then B3 b9⟩
  refine (new6_ok w3 a c 7 N (h.below B3 (Nat.le_refl _)) (hL.below B3) hb hm (by decide) (by decide)).mono ?_
  rintro _ w4 ⟨rb, rfl, ⟨g, cap, bm, r4, f4⟩, b4⟩
  have B4 := Below.then B3 b4
  have F4 : w.heap.size ≤ bm := Nat.le_trans B3.size f4
  have X4 := AX.below b4; have Y4 := AY.below b4
  have c1 := X4.c1; have c2 := X4.c2; have c3 := X4.c3
  clear b4 f4 B3 AX AY hb hm
  have sx : x.dom.length + x.txt.length ≤ 9000 := by have e : x.sz = x.txt.length + x.tag.length + x.dom.length := rfl; omega
  have sy : y.dom.length + y.txt.length ≤ 9000 := by have e : y.sz = y.txt.length + y.tag.length + y.dom.length := rfl; omega
  clear zx zy
  go_wp2_with fail
  refine (sign6 w4 rb g cap bm 7 N [] x.who x.dom x.txt x.ta x.tc r4 (hL.below B4) (hx.t.below B4) hx.fits (by omega) (by omega)).mono ?_
  rintro _ w5 ⟨rfl, r5, x5⟩
  have B5 := But.under B4 x5 F4
  have X5 : ActIn w5 w.heap.size x := ⟨r4.book.safe x5 _ _ _ X4.blk⟩
  have Y5 : ActIn w5 (w.heap.size + 1) y := ⟨r4.book.safe x5 _ _ _ Y4.blk⟩
  clear c1 c2 c3 X4 Y4 x5 B4 r4
  by_cases hw : x.who ∈ N
  rotate_left
  · have e1 : sgE N [] x.who x.dom x.txt = 60 := if_neg hw
    have e2 : sgT 7 N [] x.who x.dom x.txt = Sm.zeros 32 := if_neg (by rw [e1]; decide)
    have e3 : sgL N [] x.who x.dom x.txt = [] := if_neg (by rw [e1]; simp)
    rw [e1, e2]
    rw [e3] at r5
    have HD : Hid (decide (x.who ∈ N) = false) := hideP (by simpa using hw)
    clear e1 e2 e3 hw
    have iZ : (Tryd.prog.info? 42).map (·.size) = some (cs (Sm.zeros 32)).length := Tryd.infoDigest
    have oZ := cs_one (Sm.zeros 32)
    have B6 := Below.then B5 (below_alloc w5 (.cells (cs (Sm.zeros 32)).toArray 42))
    have r6 := r5.below (below_alloc w5 (.cells (cs (Sm.zeros 32)).toArray 42))
    have X6 := X5.below (below_alloc w5 (.cells (cs (Sm.zeros 32)).toArray 42))
    have c1 := X6.c1
    go_wp2_with (refine wpList_store_new rfl 42 _ _ rfl w5.heap.size rfl (cs (Sm.zeros 32)) rfl rfl rfl iZ oZ ?_)
    generalize w5.alloc (.cells (cs (Sm.zeros 32)).toArray 42) = w6 at B6 r6 c1 ⊢
    clear X6
    refine (is6 w6 rb g cap bm 7 N [] x.who r6).mono ?_
    rintro _ w7 ⟨rfl, b7⟩
    rw [HD.out]
    have B7 := Below.then B6 b7
    go_wp2_with fail
    refine (len6 w7 rb g cap bm 7 N [] (r6.below b7)).mono ?_
    rintro _ w8 ⟨rfl, rfl⟩
    go_wp2_with fail
    refine (live6 w7 (hL.below B7)).mono ?_
    rintro _ w9 ⟨rfl, b9⟩
    go_wp2_with fail
    go_ret
    exact ⟨rfl, Below.then B7 b9⟩
  have e1 := sg_first N x.who x.dom x.txt hw (by omega)
  have e2 : sgT 7 N [] x.who x.dom x.txt = Mm.tag (Mm.pkey 7 x.who) x.dom x.txt := if_pos e1
  have e3 : sgL N [] x.who x.dom x.txt = [(x.who, x.dom, x.txt)] := if_pos ⟨e1, by simp⟩
  have e4 := sg_again N x.who x.dom x.txt hw (by omega)
  have e5 : sgT 7 N [(x.who, x.dom, x.txt)] x.who x.dom x.txt = Mm.tag (Mm.pkey 7 x.who) x.dom x.txt := if_pos e4
  have e6 : sgL N [(x.who, x.dom, x.txt)] x.who x.dom x.txt = [(x.who, x.dom, x.txt)] := if_neg (by simp)
  have HV : Hid (vf 7 N x.who x.dom x.txt (Mm.tag (Mm.pkey 7 x.who) x.dom x.txt) = true) := hideP (by unfold vf; rw [decide_eq_true hw, beq_self_eq_true]; rfl)
  rw [e1, e2]
  rw [e3] at r5
  have E4 := hideP e4; have E5 := hideP e5; have E6 := hideP e6
  clear e1 e2 e3 e4 e5 e6 hw
  have lD := Mm.tag_length (Mm.pkey 7 x.who) x.dom x.txt
  generalize Mm.tag (Mm.pkey 7 x.who) x.dom x.txt = D at *
  have iD : Hid ((Tryd.prog.info? 42).map (·.size) = some (cs D).length) := hideP (by rw [cs_length, lD]; exact Tryd.infoDigest)
  have oD := cs_one D
  have zD : Hid (32 = (cs D).length) := hideP (by rw [cs_length, lD])
  have b6 := below_alloc w5 (.cells (cs D).toArray 42)
  have d6 := rangeAt_new w5 (cs D).toArray 42 (cs D) (by simp)
  have B6 := Below.then B5 b6; have r6 := r5.below b6; have X6 := X5.below b6; have Y6 := Y5.below b6
  have c1 := X6.c1; have c2 := X6.c2; have c3 := X6.c3
  clear b6 B5 r5 X5 Y5
  go_wp2_with (refine wpList_store_new rfl 42 _ _ rfl w5.heap.size rfl (cs D) rfl rfl zD.out iD.out oD ?_)
  generalize w5.alloc (.cells (cs D).toArray 42) = w6 at B6 r6 X6 Y6 d6 c1 c2 c3 ⊢
  refine (sign6 w6 rb g cap bm 7 N [(x.who, x.dom, x.txt)] x.who x.dom x.txt x.ta x.tc r6 (hL.below B6) (hx.t.below B6) hx.fits (by omega) (by omega)).mono ?_
  rintro _ w7 ⟨rfl, r7, x7⟩
  rw [E4.out, E5.out]
  rw [E6.out] at r7
  have B7 := But.under B6 x7 F4
  have X7 : ActIn w7 w.heap.size x := ⟨r6.book.safe x7 _ _ _ X6.blk⟩
  have Y7 : ActIn w7 (w.heap.size + 1) y := ⟨r6.book.safe x7 _ _ _ Y6.blk⟩
  have hne : w5.heap.size ≠ bm := fun e => by
    obtain ⟨v, hv⟩ : ∃ v, (cs D)[0]? = some v := ⟨_, List.getElem?_eq_getElem (by rw [cs_length, lD]; decide)⟩
    exact r6.book.apart (d6 0 v hv) e
  have d7 := x7.range hne d6
  clear c1 c2 c3 X6 Y6 x7 B6 r6 d6 hne
  have b8 := below_alloc w7 (.cells (cs D).toArray 42)
  have D8 := rangeAt_new w7 (cs D).toArray 42 (cs D) (by simp)
  have d8 := rangeAt_below d7 b8
  have B8 := Below.then B7 b8; have r8 := r7.below b8; have X8 := X7.below b8; have Y8 := Y7.below b8
  have c1 := X8.c1; have c2 := X8.c2; have c3 := X8.c3
  have k1 := Y8.c1; have k2 := Y8.c2; have k3 := Y8.c3
  have v1 := conv (hx.t.below B8); have v2 := conv (hy.t.below B8)
  clear b8 d7 r7 B7 X7 Y7
  have hB : decide ((y.who, y.dom, y.txt) ∈ [(x.who, x.dom, x.txt)]) = ((x.who == y.who) && ((x.dom == y.dom) && (x.txt == y.txt))) := by
    rw [Bool.eq_iff_iff]
    simp only [decide_eq_true_eq, List.mem_singleton, Bool.and_eq_true, beq_iff_eq, Prod.mk.injEq]
    exact ⟨fun ⟨h1, h2, h3⟩ => ⟨h1.symm, h2.symm, h3.symm⟩, fun ⟨h1, h2, h3⟩ => ⟨h1.symm, h2.symm, h3.symm⟩⟩
  have HBq : Hid (∀ b : Bool, b = ((x.who == y.who) && ((x.dom == y.dom) && (x.txt == y.txt))) → decide ((y.who, y.dom, y.txt) ∈ [(x.who, x.dom, x.txt)]) = b) := hideP fun b hb => hB.trans hb.symm
  clear hB
  go_upto_region 10 with (refine wpList_store_new rfl 42 _ _ rfl w7.heap.size rfl (cs D) rfl rfl zD.out iD.out oD ?_)
  generalize w7.alloc (.cells (cs D).toArray 42) = w8 at B8 r8 X8 Y8 c1 c2 c3 k1 k2 k3 d8 D8 v1 v2 ⊢
  go_cut [13] (fun v wd => ∃ b : Bool, v = .bool b ∧ w8 = wd ∧ Hid (b = ((x.who == y.who) && ((x.dom == y.dom) && (x.txt == y.txt)))))
  case first =>
    cases h1 : (x.who == y.who) <;> cases h2 : (x.dom == y.dom) <;> cases h3 : (x.txt == y.txt)
    all_goals
      go_wp2_with fail
      go_meet
      exact ⟨_, rfl, rfl, hideP (by simp [h1, h2, h3])⟩
  case rest =>
  obtain ⟨b, rfl, rfl, hb⟩ := hcut
  have HB := hideP (HBq.out b hb.out)
  clear hb HBq
  go_wp2_with fail
  have pc1 := fun p : BelowBy w8 => cell_kept c1 p; have pc2 := fun p : BelowBy w8 => cell_kept c2 p; have pc3 := fun p : BelowBy w8 => cell_kept c3 p
  have pk1 := fun p : BelowBy w8 => cell_kept k1 p; have pk2 := fun p : BelowBy w8 => cell_kept k2 p; have pk3 := fun p : BelowBy w8 => cell_kept k3 p
  have cLen := fun p : BelowBy w8 => len6 p.w rb g cap bm 7 N _ (r8.below p.h)
  have cVer := fun p : BelowBy w8 => verify6 p.w rb g cap bm 7 N _ x.who x.dom x.txt D x.ta (some ⟨w5.heap.size, 0, none⟩) 32 x.tc 32 (r8.below p.h) (hL.below (Below.then B8 p.h)) (hx.t.below (Below.then B8 p.h)) lD (by have e := holds_range (rangeAt_below d8 p.h); rwa [lD] at e) (by omega) (by omega)
  have cMx := fun p : BelowBy w8 => made6 p.w rb g cap bm 7 N _ x.who x.dom x.txt x.ta x.tc (r8.below p.h) (hx.t.below (Below.then B8 p.h)) hx.fits
  have cMy := fun p : BelowBy w8 => made6 p.w rb g cap bm 7 N _ y.who y.dom y.txt y.ta y.tc (r8.below p.h) (hy.t.below (Below.then B8 p.h)) hy.fits
  have cLive := fun p : BelowBy w8 => live6 p.w (hL.below (Below.then B8 p.h))
  rw [HV.out] at cVer
  rw [HB.out] at cMy
  have hdx : decide ((x.who, x.dom, x.txt) ∈ [(x.who, x.dom, x.txt)]) = true := by simp
  rw [hdx] at cMx
  have hE := eql_digest D D lD lD
  rw [beq_self_eq_true] at hE
  simp only [List.length_singleton] at cLen
  clear hdx c1 c2 c3 k1 k2 k3 X8 Y8 r8 v1 v2 hx hy
  haveI : Inhabited (BelowBy w8) := ⟨⟨w8, Below.refl _ _⟩⟩
  refine wp_region_quiet_below (by kernel_rfl) (by kernel_rfl) ?_
  iterate 3 quiet_step (fail)
  refine wpQuiet_step (fun K hK => ?_)
  rw [if_pos (by kernel_rfl)]
  refine ⟨.agg (cs D).toArray, quietAt_load_row 42 _ rfl w7.heap.size 0 (by kernel_rfl) (cs D) _ D8 Tryd.underlying42 rfl iD.out, ?_⟩
  go_simp
  refine hK _ ?_
  clear hK K
  refine wpQuiet_step (fun K hK => ?_)
  rw [if_pos (by kernel_rfl)]
  refine ⟨.agg (cs D).toArray, quietAt_load_row 42 _ rfl w5.heap.size 0 (by kernel_rfl) (cs D) _ d8 Tryd.underlying42 rfl iD.out, ?_⟩
  go_simp
  refine hK _ ?_
  clear hK K
  refine wpQuiet_step (fun K hK => ?_)
  rw [if_pos (by kernel_rfl)]
  refine ⟨.bool true, quietAt_eql 42 _ _ _ rfl (ba D) (ba D) (.bool true) (by kernel_rfl) (by kernel_rfl) (fun w => by kernel_rfl) hE, ?_⟩
  go_simp
  refine hK _ ?_
  clear hK K
  repeat (quiet_step (first
    | (go_at_call 16; refine Calls.below_of_same (cLen _))
    | (go_at_call 20; refine Calls.below_of (cVer _))
    | (go_at_call_of 23 [Value.slice x.ta x.txt.length x.tc]; refine Calls.below_of (cMx _))
    | (go_at_call_of 23 [Value.slice y.ta y.txt.length y.tc]; refine Calls.below_of (cMy _))
    | (go_at_call 11; refine Calls.below_of (cLive _))))
  refine wpQuiet_nil ?_
  intro _ hw'
  obtain ⟨⟨w9, hb9⟩, rfl⟩ := hw'
  go_wp2_with fail
  go_ret
  exact ⟨rfl, Below.then B8 hb9⟩
end Go.Proofs.YtfpdiafedoppnaaDoor
