/-
  atOnce's iterator, walked: what follows at once from facts, told one by one.
-/
import Derived.Test.YtdehimbfcilhpaaGreatDoorQFr12
import Derived.Test.YtdehimbfcilhpaaGreatDoorQSorted
namespace Go.Proofs.YtdehimbfcilhpaaGreatDoor
open Go.RowKit Go.Lib Go.Shelf
attribute [local go_sem] Oper.semAt_some

set_option maxRecDepth 100000 in
set_option maxHeartbeats 4000000 in
theorem once1_at (w0 : World) (b1 b2 b3 : Nat) (ra : Option Addr) (rc : Nat) (rs : List Rv) (ha : Option Addr) (hc : Nat) (hs : List (List UInt8)) (na : Option Addr) (nc : Nat) (ns : List (List UInt8)) (fa : Option Addr) (fc : Nat) (zs : List Fv) (X : Nat → Prop) (l : Nat) (J Jx : List F → World → Prop) (W : World)
    (hi : AIn w0 ra rc rs ha hc hs na nc ns fa fc zs) (hcap : ACap b1 b2 b3 ra rc rs ha hc hs na nc ns fa fc zs W) (hX : ∀ k, X k → w0.heap.size ≤ k ∧ k < W.heap.size) (nb : ¬ X b1 ∧ ¬ X b2 ∧ ¬ X b3)
    (hJ : ∀ s A A', J s A → Itr 166 W.heap.size A A' → J s A') (hJx : ∀ s A A', Jx s A → Itr 166 W.heap.size A A' → Jx s A')
    (hY : ∀ pre f v W1, J pre W1 → EltO ⟨hs, ns⟩ (rs.map Rv.r) (zs.map Fv.f) f v W1 → pre.length < rs.length * hs.length * 60001 → YieldAt Fence.wide 0 Tryz.prog l #[v] W1 fun e W' => (e = .returned (.bool true) ∧ J (pre ++ [f]) W' ∧ Rnd w0.heap.size X W1 W') ∨ (e = .returned (.bool false) ∧ Jx (pre ++ [f]) W' ∧ KeepsFrom W.heap.size W1 W'))
    (hb : Below w0.heap.size w0 W) (h0 : J [] W) :
    Calls Tryz.prog 59 #[.func (.yield l) #[] #[], ptr b1, ptr b2, ptr b3] W fun e W' => (∃ v, e = .returned v) ∧ ((∃ fs, (∀ x, x ∈ fs ↔ x ∈ Ml.onceL ⟨hs, ns⟩ (rs.map Rv.r) (zs.map Fv.f)) ∧ J fs W') ∨ (∃ pre, Jx pre W')) := by
  have TRu := Tryz.underlying62
  have A1 := below_alloc W (.cells #[.func (.yield l) #[] #[]] 81)
  have ON : OnW w0 W.heap.size l b1 b2 b3 ra rc rs ha hc hs na nc ns fa fc zs (W.alloc (.cells #[.func (.yield l) #[] #[]] 81)) :=
    ⟨⟨below_heap A1 hcap.rules, below_heap A1 hcap.world, below_heap A1 hcap.facts⟩, heap_alloc_new W _, hb.trans (A1.mono hb.size), hb.size⟩
  have J1 := hJ [] W _ h0 (Itr.below A1 (Nat.le_refl _))
  have c1 : (W.alloc (.cells #[.func (.yield l) #[] #[]] 81)).cell? ⟨b1, 0, none⟩ = some (.slice ra rs.length rc) := by rw [heap_cell ON.cap.rules]; rfl
  have few := hi.rules.row.few
  have fewh := hi.homes.few
  have HI := hideP hi
  have HY := hideP hY
  have HJ := hideP hJ
  have HJX := hideP hJx
  have HX := hideP hX
  have NB := hideP nb
  have hlow := hb.size
  clear hi hY hJ hJx hX nb hcap h0 hb
  refine calls_marks Tryz.func59 rfl ?_
  simp only [Tryz.ntmps59, List.size_toArray, List.length_cons, List.length_nil, Nat.reduceAdd, Nat.reduceSub, Array.replicate_succ, Array.replicate_zero, List.push_toArray, List.append_toArray, List.nil_append, List.cons_append]
  go_wp2_with fail
  generalize hW1 : W.alloc (.cells #[.func (.yield l) #[] #[]] 81) = W1 at *
  clear hW1 A1
  generalize hB : W.heap.size = B at *
  clear hB
  refine wp_loop_ghost_k (fun n a w => ∃ (i : Nat) (fs : List F) (Ds : List Nat) (u6 u8 u15 u16 u17 u18 u19 u20 u21 u22 u23 u24 u25 u26 u27 u28 u50 u51 : Value), n = rs.length - i ∧ i ≤ rs.length ∧ Hid (∀ x, x ∈ fs ↔ x ∈ Ml.onceL ⟨hs, ns⟩ ((rs.take i).map Rv.r) (zs.map Fv.f)) ∧ fs.length ≤ i * hs.length * 60001 ∧ OnW w0 B l b1 b2 b3 ra rc rs ha hc hs na nc ns fa fc zs w ∧ Marks B Ds w ∧ J fs w ∧ a = { tmps := #[.func (.yield l) #[] #[], ptr b1, ptr b2, ptr b3, ptr B, undef, u6, undef, u8, undef, undef, undef, .slice ra rs.length rc, .int .i64 (rs.length : Int), .int .i64 (i : Int), u15, u16, u17, u18, u19, u20, u21, u22, u23, u24, u25, u26, u27, u28, undef, undef, undef, undef, undef, undef, undef, undef, undef, undef, undef, undef, undef, undef, undef, undef, undef, undef, undef, undef, undef, u50, u51], defers := Ds.map mark }) rs.length ?start ?round
  case start =>
    exact ⟨0, [], [], _, _, _, _, _, _, _, _, _, _, _, _, _, _, _, _, _, _, rfl, Nat.zero_le _, hideP (fun x => by simp [Ml.onceL]), by simp, ON, Marks.nil _ _, J1, rfl⟩
  case round =>
    rintro n a wr ⟨i, fs, Ds, u6, u8, u15, u16, u17, u18, u19, u20, u21, u22, u23, u24, u25, u26, u27, u28, u50, u51, rfl, hir, hfs, hln, ON1, MK1, J2, rfl⟩ J9 K9 hJ9 hK9
    clear ON J1 c1
    by_cases hlt : i < rs.length
    · have q1 : (i : Int) < (rs.length : Int) := by omega
      obtain ⟨P1, O1, rfl⟩ := HI.out.rules.row.addr (by omega)
      have r1 : wr.rangeAt P1 (O1 + i * 11) (rv (rs[i]'hlt)) := (HI.out.rules.row.below ON1.below (Nat.le_refl _)).range i hlt
      have hrm : Hid ((rs[i]'hlt) ∈ rs) := List.getElem_mem hlt
      have HT := hideP (fun x => onceL_take (w := ⟨hs, ns⟩) (m := zs.map Fv.f) hlt x)
      generalize (rs[i]'hlt) = r at *
      have iQ : (Tryz.prog.info? 62).map (·.size) = some (rv r).length := iR11
      have N1 := heap_alloc_new wr (.cells #[.string { data := #[] }, .bool false, .int .i64 0, .string { data := #[] }, .string { data := #[] }, .slice none 0 0, .string { data := #[] }, .bool false, .int .i64 0, .string { data := #[] }, .slice none 0 0] 62)
      have hBr : B < wr.heap.size := heap_lt ON1.box
      go_wp2_with (first
        | (refine wpList_load_mid rfl 62 _ rfl P1 (O1 + i * 11) rfl (rv r) _ r1 TRu rfl iQ ?_)
        | (refine wpList_store_all rfl 62 _ _ rfl wr.heap.size 11 _ 62 (rv r) rfl rfl N1 rfl rfl iR11 rfl ?_; intro w2 N2 d2; have B2 := below_tok d2; have ON2 := ON1.next B2; have MK2 := MK1.below B2; have J3 := HJ.out _ _ _ J2 (Itr.below B2 (Nat.le_of_lt hBr)); have c2 : w2.cell? ⟨b2, 0, none⟩ = some (.slice ha hs.length hc) := (by rw [heap_cell ON2.cap.world]; rfl)))
      generalize hS6 : wr.heap.size = S6 at *
      clear hS6 d2 B2 r1 N1 ON1 MK1 J2 iQ
      refine wp_loop_ghost_k (fun n a w => ∃ (j : Nat) (fs2 : List F) (Ds2 : List Nat) (u8 u15 u16 u17 u18 u22 u23 u24 u25 u26 u27 u28 u50 u51 : Value), n = hs.length - j ∧ j ≤ hs.length ∧ Hid (∀ x, x ∈ fs2 ↔ x ∈ Ml.onceL ⟨hs, ns⟩ ((rs.take i).map Rv.r) (zs.map Fv.f) ∨ x ∈ (hs.take j).flatMap (fun h => Ml.heads ⟨hs, ns⟩ r.r (zs.map Fv.f) h)) ∧ fs2.length ≤ (i * hs.length + j) * 60001 ∧ OnW w0 B l b1 b2 b3 (some ⟨P1, O1, none⟩) rc rs ha hc hs na nc ns fa fc zs w ∧ Marks B Ds2 w ∧ w.heap[S6]? = some (.cells (rv r).toArray 62) ∧ J fs2 w ∧ a = { tmps := #[.func (.yield l) #[] #[], ptr b1, ptr b2, ptr b3, ptr B, undef, ptr S6, undef, u8, undef, undef, undef, .slice (some ⟨P1, O1, none⟩) rs.length rc, .int .i64 (rs.length : Int), .int .i64 (i : Int), u15, u16, u17, u18, .slice ha hs.length hc, .int .i64 (hs.length : Int), .int .i64 (j : Int), u22, u23, u24, u25, u26, u27, u28, undef, undef, undef, undef, undef, undef, undef, undef, undef, undef, undef, undef, undef, undef, undef, undef, undef, undef, undef, undef, undef, u50, u51], defers := Ds2.map mark }) hs.length ?start2 ?round2
      case start2 =>
        exact ⟨0, fs, Ds, _, _, _, _, _, _, _, _, _, _, _, _, _, _, rfl, Nat.zero_le _, hideP (fun x => by rw [hfs.out x]; simp), by omega, ON2, MK2, N2, J3, rfl⟩
      case round2 =>
        rintro n2 a2 w3 ⟨j, fs2, Ds2, u8, u15, u16, u17, u18, u22, u23, u24, u25, u26, u27, u28, u50, u51, rfl, hjr, hf2, hl2, ON3, MK3, H6, J4, rfl⟩ J8 K8 hJ8 hK8
        clear ON2 MK2 N2 J3 c2
        have hB3 : B < w3.heap.size := heap_lt ON3.box
        by_cases hjt : j < hs.length
        · have q2 : (j : Int) < (hs.length : Int) := by omega
          obtain ⟨P2, O2, rfl⟩ := HI.out.homes.addr (by omega)
          have t1 := ((HI.out.homes).below ON3.below (Nat.le_refl _)).text j hjt
          have hhm : Hid ((hs[j]'hjt) ∈ hs) := List.getElem_mem hjt
          have HT2 := hideP (fun x => homes_take (w := ⟨hs, ns⟩) (m := zs.map Fv.f) (r := r.r) hjt x)
          generalize (hs[j]'hjt) = home at *
          have d3 : w3.cell? ⟨b3, 0, none⟩ = some (.slice fa zs.length fc) := by rw [heap_cell ON3.cap.facts]; rfl
          have TB := hideP (bindings_at r home fa fc zs w3)
          go_wp2_with (refine wpList_load_all rfl 62 _ rfl S6 11 62 (rv r) _ rfl (by with_reducible exact H6) rfl TRu rfl iR11 ?_)
          refine TB.out.mono ?_
          rintro e w4 ⟨rfl, B4, S4, C4⟩
          have ON4 := ON3.next B4
          have MK4 := MK3.below B4
          have H64 := below_heap B4 H6
          have J5 := HJ.out _ _ _ J4 (Itr.below B4 (Nat.le_of_lt hB3))
          have hB4 : B < w4.heap.size := heap_lt ON4.box
          have DS := hideP MK4.lt
          have BI := hideP (HI.out.bin hrm.out hhm.out)
          clear TB t1 d3 ON3 MK3 H6 J4
          go_wp2_with fail
          refine wp_range (pt := 166) (gf := 78) (lb := #[ptr w3.heap.size, ptr (w3.heap.size + 1), ptr (w3.heap.size + 1 + 1)]) rfl (enters_of Tryz.func78 (by kernel_rfl) rfl)
            (Elt := EltB (w4.heap.size + 2) r.r home (zs.map Fv.f)) (Kp := fun l2 => Rnd w0.heap.size fun k => X k ∨ (k = l2 ∧ w0.heap.size ≤ l2)) (S := BGot r.r home (zs.map Fv.f)) (Sp := fun _ => True) (N := 60001)
            ?seq (fun h k => h.trans k) (fun l2 W5 o o' h1 _ _ => Rnd.but (but_putObj W5 l2 o') (.inr ⟨rfl, by omega⟩)) rfl
            (fun pre W5 => OnW w0 B l b1 b2 b3 (some ⟨P1, O1, none⟩) rc rs (some ⟨P2, O2, none⟩) hc hs na nc ns fa fc zs W5 ∧ W5.heap[S6]? = some (.cells (rv r).toArray 62) ∧ Marks B Ds2 W5 ∧ J (fs2 ++ pre.flatMap (Ml.hd ⟨hs, ns⟩ r.r)) W5)
            (fun c pre W5 => c = .ret ∧ Marks B Ds2 W5 ∧ ∃ q, Jx q W5)
            (fun s A A' h hit => ⟨h.1.itr hit (Nat.le_of_lt hB4), hit.same _ _ _ _ h.2.1 (by decide), h.2.2.1.itr hit DS.out, HJ.out _ _ _ h.2.2.2 (hit.mono (Nat.le_of_lt hB4))⟩)
            (fun c s A A' h hit => ⟨h.1, h.2.1.itr hit DS.out, h.2.2.elim fun q hq => ⟨q, HJX.out _ _ _ hq (hit.mono (Nat.le_of_lt hB4))⟩⟩)
            ⟨ON4, H64, MK4, by simpa using J5⟩
            (fun p a' W5 => ∃ (v : Value) (u8 u12 u13 u14 u15 u16 u17 u18 u19 u20 u21 u22 u23 u24 u25 u26 u27 u28 u50 u51 : Value), EltB (w4.heap.size + 2) r.r home (zs.map Fv.f) p v W5 ∧ a' = { tmps := #[.func (.yield l) #[] #[], ptr b1, ptr b2, ptr b3, ptr B, undef, ptr S6, undef, u8, v, undef, undef, u12, u13, u14, u15, u16, u17, u18, u19, u20, u21, u22, u23, u24, u25, u26, u27, u28, v, undef, undef, undef, undef, undef, undef, undef, undef, undef, undef, undef, undef, undef, undef, undef, undef, undef, undef, undef, undef, u50, u51], defers := [] })
            (fun p a' A A' h hit => by
              obtain ⟨v, u8, u12, u13, u14, u15, u16, u17, u18, u19, u20, u21, u22, u23, u24, u25, u26, u27, u28, u50, u51, h1, h2⟩ := h
              exact ⟨v, u8, u12, u13, u14, u15, u16, u17, u18, u19, u20, u21, u22, u23, u24, u25, u26, u27, u28, u50, u51, ⟨h1.1.itr hit, h1.2⟩, h2⟩)
            ?assign ?body ?done ?stop
          case seq =>
            intro W1 hb1 hs1
            have hsq := bind_seq (X := X) BI.out (⟨below_heap hb1 C4.rule, below_heap hb1 C4.home, below_heap hb1 C4.facts⟩ : BCap w0 W1.heap.size _ _ _ r home fa fc zs W1) (fun k hk => ⟨(HX.out k hk).1, by have := (HX.out k hk).2; omega⟩) (ON4.below.trans (hb1.mono ON4.below.size))
            rw [hs1] at hsq
            exact hsq
          case assign =>
            intro l2 pre p v W5 K hl5 hlt5 HI5 helt hK
            gi_wp2
            exact hK _ _ (KeepsFrom.refl _ _) (Rnd.refl _ _ _) HI5 ⟨v, _, _, _, _, _, _, _, _, _, _, _, _, _, _, _, _, _, _, _, _, helt, rfl⟩
          case body =>
            rintro l2 pre p _ W5 hl5 hlt5 ⟨ON5, H65, MK5, J6⟩ ⟨_, u8, u12, u13, u14, u15, u16, u17, u18, u19, u20, u21, u22, u23, u24, u25, u26, u27, u28, u50, u51, ⟨⟨ea, ec, rfl, RE, FE, LE⟩, HH⟩, rfl⟩ hN
            have hB5 : B < W5.heap.size := heap_lt ON5.box
            have TH := hideP (mHead_at r ea ec p W5 ((HI.out.rules.each r hrm.out).below ON5.below (Nat.le_refl _)) RE.row (by have := (HI.out.smr r hrm.out).args; omega))
            refine wpIn_block ?_
            apply wpIn_seq_k
            intro K5 hK5
            refine round_region (by rintro ⟨_, _, h⟩; exact h) rfl ?_
            go_wp2_with (refine wpList_load_all rfl 62 _ rfl S6 11 62 (rv r) _ rfl (by with_reducible exact H65) rfl TRu rfl iR11 ?_)
            refine TH.out.mono ?_
            rintro e w6 ⟨⟨z, rfl, RZ, hz⟩, B6⟩
            have N6 := heap_alloc_new w6 (.cells #[.string { data := #[] }, .string { data := #[] }, .string { data := #[] }, .slice none 0 0] 36)
            have iF : (Tryz.prog.info? 36).map (·.size) = some 4 := by kernel_rfl
            go_wp2_with (refine wpList_store_all rfl 36 _ _ rfl w6.heap.size 4 _ 36 (fv z) rfl rfl N6 rfl rfl iF rfl ?_; intro w7 N7 d7; have B7 := below_tok d7)
            have T7 := Below.then B6 B7
            have ON7 := ON5.next T7
            have H67 := below_heap T7 H65
            have MK7 := MK5.below T7
            have J7 := HJ.out _ _ _ J6 (Itr.below T7 (Nat.le_of_lt hB5))
            have RZ7 := RZ.safe (Safe.below B7 : Safe 56 _ _)
            have KF7 : KeepsFrom w4.heap.size W5 w7 := (Rnd.of_below (n0 := 0) (X := fun _ => False) T7).keeps (fun _ h => h.elim)
            have R7 : ∀ Y, Rnd w0.heap.size Y W5 w7 := fun Y => Rnd.of_below T7
            have HR7 := hideP R7
            clear TH d7 B6 B7 R7 N6 RZ
            generalize w6.heap.size = S7 at *
            rcases fact_two hz with ⟨u1, u2⟩ | ⟨u1, u2⟩
            · rw [u2]
              have FS := hideP (hd_none (w := ⟨hs, ns⟩) u1)
              clear u1 u2 hz
              gi_wp2
              refine ⟨trivial, ?_⟩
              gi_wp2
              refine ⟨(fun _ h => by cases h), ?_⟩
              gi_wp2
              exact ⟨KF7, HR7.out _, ON7, H67, MK7, by rw [flat_snoc, FS.out, List.append_nil]; exact J7⟩
            · rw [u2]
              have f0 : w7.cell? ⟨S7, 0, none⟩ = some (str z.at_) := by rw [heap_cell N7]; rfl
              have f1 : w7.cell? ⟨S7, 1, none⟩ = some (str z.by_) := by rw [heap_cell N7]; rfl
              have f2 : w7.cell? ⟨S7, 2, none⟩ = some (str z.pred) := by rw [heap_cell N7]; rfl
              have f3 : w7.cell? ⟨S7, 3, none⟩ = some (.slice z.a z.ks.length z.cap) := by rw [heap_cell N7]; rfl
              have n1 : w7.cell? ⟨b2, 1, none⟩ = some (.slice na ns.length nc) := by rw [heap_cell ON7.cap.world]; rfl
              have y1 : w7.cell? ⟨B, 0, none⟩ = some (.func (.yield l) #[] #[]) := by rw [heap_cell ON7.box]; rfl
              have TC := hideP (contains_at w7 na nc ns z.at_ (HI.out.names.below ON7.below (Nat.le_refl _)))
              by_cases hin : z.at_ ∈ ns
              · rw [decide_eq_true hin] at TC
                have FS := hideP (hd_in (w := ⟨hs, ns⟩) u1 hin)
                have MEM : z.f ∈ Ml.onceL ⟨hs, ns⟩ (rs.map Rv.r) (zs.map Fv.f) := heads_once (List.mem_map_of_mem hrm.out) hhm.out (HH ⟨hs, ns⟩ z.f (by rw [FS.out]; simp))
                have LEN : (fs2 ++ pre.flatMap (Ml.hd ⟨hs, ns⟩ r.r)).length < rs.length * hs.length * 60001 := by
                  have h1 := Ml.hds_few ⟨hs, ns⟩ r.r pre
                  have h2 : (i + 1) * hs.length ≤ rs.length * hs.length := Nat.mul_le_mul_right _ hlt
                  rw [Nat.succ_mul] at h2
                  have h3 : (i * hs.length + j + 1) * 60001 ≤ rs.length * hs.length * 60001 := Nat.mul_le_mul_right _ (by omega)
                  rw [List.length_append]
                  rw [Nat.succ_mul] at h3
                  omega
                obtain ⟨fn, tmps, assign, body, hy, hR⟩ := HY.out _ z.f z.val w7 J7 ⟨⟨z, rfl, rfl, RZ7⟩, MEM⟩ LEN
                clear u1 u2 hz hin MEM LEN HH
                gi_wp2
                refine ⟨trivial, rfl, (CallsIn.inRound l2 (calls_in TC.out)).mono ?_⟩
                rintro e w8 ⟨rfl, rfl⟩
                gi_wp2
                refine ⟨rfl, (show RoundIn (Fence.wide.inRound l2) _ _ _ _ _ _ _ _ _ from hR).mono ?_⟩
                rintro e w9 (⟨rfl, J9', r9⟩ | ⟨rfl, Jx9, r9⟩)
                · have ON9 := ON7.rnd r9 HX.out NB.out
                  have H69 : w9.heap[S6]? = some (.cells (rv r).toArray 62) := r9.other H67 (fun hx => by have := (HX.out _ hx).2; omega) rfl
                  have MK9 := MK7.rnd r9 (fun k hk => (HX.out k hk).2)
                  have KF9 := KF7.trans (r9.keeps (B := w4.heap.size) (fun k hk => by have := (HX.out k hk).2; omega))
                  gi_wp2
                  exact ⟨KF9, (HR7.out _).trans (r9.mono fun k hk => .inl hk), ON9, H69, MK9, by rw [flat_snoc, FS.out]; exact J9'⟩
                · have MK9 : Marks B Ds2 w9 := ⟨fun D hD => r9.same D _ (MK7.low D hD) (MK7.open_ D hD) rfl, MK7.nodup, MK7.low⟩
                  have KF9 := KF7.trans (keeps_up r9 (Nat.le_of_lt hB4))
                  gi_wp2
                  exact ⟨KF9, rfl, MK9, _, Jx9⟩
              · rw [decide_eq_false hin] at TC
                have FS := hideP (hd_out (w := ⟨hs, ns⟩) u1 hin)
                clear u1 u2 hz hin HH
                gi_wp2
                refine ⟨trivial, rfl, (CallsIn.inRound l2 (calls_in TC.out)).mono ?_⟩
                rintro e w8 ⟨rfl, rfl⟩
                gi_wp2
                refine ⟨(fun _ h => by cases h), ?_⟩
                gi_wp2
                exact ⟨KF7, HR7.out _, ON7, H67, MK7, by rw [flat_snoc, FS.out, List.append_nil]; exact J7⟩
          case done =>
            rintro D ys W7 hD7 hS7 ⟨ON7, _, MK7, J7⟩ hK7
            have MK8 : Marks B (D :: Ds2) W7 := ⟨fun D' h' => (by
              rcases List.mem_cons.1 h' with rfl | h'
              · exact hK7
              · exact MK7.open_ D' h'), List.nodup_cons.2 ⟨fun hm => (by have := DS.out D hm; omega), MK7.nodup⟩, fun D' h' => (by
              rcases List.mem_cons.1 h' with rfl | h'
              · omega
              · exact MK7.low D' h')⟩
            have GS := hideP hS7
            clear hS7
            go_wp2_with fail
            refine Handed.intro (hs.length - (j + 1)) (by omega) (hJ8 _ _ _ ⟨j + 1, fs2 ++ ys.flatMap (Ml.hd ⟨hs, ns⟩ r.r), D :: Ds2, _, _, _, _, _, _, _, _, _, _, _, _, _, _, rfl, by omega, hideP (fun x => ?_), ?_, ON7, MK8, by assumption, J7, by go_num⟩)
            · rw [List.mem_append, hf2.out x, HT2.out x, GS.out.1 ⟨hs, ns⟩ x]
              constructor
              · rintro ((h | h) | h)
                · exact .inl h
                · exact .inr (.inl h)
                · exact .inr (.inr h)
              · rintro (h | h | h)
                · exact .inl (.inl h)
                · exact .inl (.inr h)
                · exact .inr h
            · have h1 := Ml.hds_few ⟨hs, ns⟩ r.r ys
              have h2 := GS.out.2
              rw [List.length_append, ← Nat.add_assoc, Nat.succ_mul]
              omega
          case stop =>
            rintro D c pre W7 hD7 _ ⟨rfl, MK7, q, hq⟩ hK7
            refine wpIn_ret ?_
            have MK8 : Marks B (D :: Ds2) W7 := ⟨fun D' h' => (by
              rcases List.mem_cons.1 h' with rfl | h'
              · exact hK7
              · exact MK7.open_ D' h'), List.nodup_cons.2 ⟨fun hm => (by have := DS.out D hm; omega), MK7.nodup⟩, fun D' h' => (by
              rcases List.mem_cons.1 h' with rfl | h'
              · omega
              · exact MK7.low D' h')⟩
            exact leaves_marks (D :: Ds2) W7 MK8.open_ MK8.nodup ⟨_, results_none rfl _ _ _, ⟨_, rfl⟩, .inr ⟨q, HJX.out _ _ _ hq (shut_itr (D :: Ds2) W7 MK8.open_ MK8.nodup MK8.low)⟩⟩
        · have q2 : ¬ (j : Int) < (hs.length : Int) := by omega
          obtain rfl : j = hs.length := by omega
          have HF := hf2.out
          rw [List.take_length] at HF
          have HF2 := hideP HF
          clear HF hf2
          go_wp2_with fail
          refine Handed.intro (rs.length - (i + 1)) (by omega) (hJ9 _ _ _ ⟨i + 1, fs2, Ds2, _, _, _, _, _, _, _, _, _, _, _, _, _, _, _, _, _, _, rfl, by omega, hideP (fun x => by rw [HF2.out x]; exact (HT.out x).symm), ?_, ON3, MK3, J4, by go_num⟩)
          rw [Nat.succ_mul]; exact hl2
    · have q1 : ¬ (i : Int) < (rs.length : Int) := by omega
      obtain rfl : i = rs.length := by omega
      have HF := hfs.out
      rw [List.take_length] at HF
      have HF2 := hideP HF
      have JS := HJ.out _ _ _ J2 (shut_itr Ds wr MK1.open_ MK1.nodup MK1.low)
      have MO := hideP MK1
      clear HF hfs
      go_wp2_with fail
      exact leaves_marks Ds wr MO.out.open_ MO.out.nodup ⟨_, results_none rfl _ _ _, ⟨_, rfl⟩, .inl ⟨fs, HF2.out, JS⟩⟩
end Go.Proofs.YtdehimbfcilhpaaGreatDoor

/-
  atOnce's iterator as a contract; what a row of facts of the call's own keeps.
-/
namespace Go.Proofs.YtdehimbfcilhpaaGreatDoor
open Go.RowKit Go.Lib Go.Shelf

/-- an iterator over what follows at once, as a contract -/
theorem once_seq {w0 : World} {b1 b2 b3 : Nat} {ra : Option Addr} {rc : Nat} {rs : List Rv} {ha : Option Addr} {hc : Nat} {hs : List (List UInt8)} {na : Option Addr} {nc : Nat} {ns : List (List UInt8)} {fa : Option Addr} {fc : Nat} {zs : List Fv} {X : Nat → Prop} {W : World}
    (hi : AIn w0 ra rc rs ha hc hs na nc ns fa fc zs) (hcap : ACap b1 b2 b3 ra rc rs ha hc hs na nc ns fa fc zs W) (hX : ∀ k, X k → w0.heap.size ≤ k ∧ k < W.heap.size) (nb : ¬ X b1 ∧ ¬ X b2 ∧ ¬ X b3) (hb : Below w0.heap.size w0 W) :
    SeqM Tryz.prog 166 59 #[ptr b1, ptr b2, ptr b3] (EltO ⟨hs, ns⟩ (rs.map Rv.r) (zs.map Fv.f)) (fun l => Rnd w0.heap.size fun k => X k ∨ (k = l ∧ w0.heap.size ≤ l)) (fun fs => ∀ x, x ∈ fs ↔ x ∈ Ml.onceL ⟨hs, ns⟩ (rs.map Rv.r) (zs.map Fv.f)) (fun _ => True) (rs.length * hs.length * 60001) W := fun l J Jx hl ho hJ hJx hY h0 => by
  have no : ∀ (b : Nat) (c : Array Value) (t : TypeId), W.heap[b]? = some (.cells c t) → ¬ X b → ¬ (X b ∨ (b = l ∧ w0.heap.size ≤ l)) := fun b c t h hx q => by
    rcases q with q | ⟨rfl, _⟩
    · exact hx q
    · obtain ⟨o, h1, h2⟩ := ho
      rw [h] at h1; cases h1; cases h2
  refine (calls_in (once1_at w0 b1 b2 b3 ra rc rs ha hc hs na nc ns fa fc zs (fun k => X k ∨ (k = l ∧ w0.heap.size ≤ l)) l J Jx W hi hcap (fun k hk => ?_) ⟨no _ _ _ hcap.rules nb.1, no _ _ _ hcap.world nb.2.1, no _ _ _ hcap.facts nb.2.2⟩ hJ hJx hY hb h0)).mono ?_
  · rcases hk with hk | ⟨rfl, hk⟩
    · exact hX k hk
    · exact ⟨hk, hl⟩
  · rintro e W' ⟨hv, ⟨ys, h1, h2⟩ | ⟨pre, h2⟩⟩
    · exact ⟨hv, .inl ⟨ys, h1, h2⟩⟩
    · exact ⟨hv, .inr ⟨pre, trivial, h2⟩⟩
/-- a row of facts of the call's own grew -/
theorem grown_rnd {n0 B : Nat} {X : Nat → Prop} {w w' : World} {v : Value} {n : Nat} {xs : List Value} (ho : w.ownsRow B 36 4 v n xs) (hg : w.grownBy w' v.ownBlock) (hn : n0 ≤ B) : Rnd n0 X w w' := by
  refine ⟨hg.os, hg.tape, hg.output, hg.size, fun k o hk _ hF => ?_⟩
  refine (hg.block k (heap_lt hk) fun e => ?_).trans hk
  rcases ho.2 with ⟨rfl, _⟩ | ⟨g, cap, cur, rfl, h1, h2, _⟩
  · cases e
  · obtain rfl : g = k := by simpa [Value.ownBlock] using e.symm
    rw [h2] at hk; cases hk
    rcases hF with hF | hF
    · omega
    · simp [isF] at hF
theorem grown_safe {B : Nat} {w w' : World} {v : Value} {n : Nat} {xs : List Value} {ty : TypeId} (ho : w.ownsRow B 36 4 v n xs) (hg : w.grownBy w' v.ownBlock) (hn : ty ≠ 36) : Safe ty w w' := fun k cur hk => by
  refine (hg.block k (heap_lt hk) fun e => ?_).trans hk
  rcases ho.2 with ⟨rfl, _⟩ | ⟨g, cap, cur', rfl, h1, h2, _⟩
  · cases e
  · obtain rfl : g = k := by simpa [Value.ownBlock] using e.symm
    rw [h2] at hk; cases hk; exact hn rfl
/-- .. it stays where the iterator goes on -/
theorem ownsRow_itr {pt e : TypeId} {C : Nat} {W W' : World} {base size n : Nat} {v : Value} {xs : List Value} (h : W.ownsRow base e size v n xs) (hi : Itr pt C W W') (hn : e ≠ pt) : W'.ownsRow base e size v n xs := by
  obtain ⟨h1, h2⟩ := h
  refine ⟨h1, ?_⟩
  rcases h2 with h2 | ⟨g, cap, cur, hv, hg, hh, rest⟩
  · exact .inl h2
  · exact .inr ⟨g, cap, cur, hv, hg, hi.same _ _ _ _ hh hn, rest⟩
theorem But.safeT {q : Nat} {w w' : World} {C : Array Value} {T ty : TypeId} (b : But q w w') (hq : w.heap[q]? = some (.cells C T)) (hn : ty ≠ T) : Safe ty w w' := fun k cur hk => b.heap (fun e => by subst e; rw [hq] at hk; cases hk; exact hn rfl) hk
theorem rnd_alloc (n0 : Nat) (X : Nat → Prop) (W : World) (o : Obj) : Rnd n0 X W (W.alloc o) := Rnd.of_below (below_alloc W o)
theorem keeps_below {B : Nat} {W W' : World} (h : Below W.heap.size W W') : KeepsFrom B W W' := (Rnd.of_below (n0 := 0) (X := fun _ => False) h).keeps (fun _ h => h.elim)
end Go.Proofs.YtdehimbfcilhpaaGreatDoor
