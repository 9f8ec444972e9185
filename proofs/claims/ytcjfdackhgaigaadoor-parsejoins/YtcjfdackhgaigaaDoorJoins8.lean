/-
  ParseJoins: its walk.
-/
import Derived.Test.YtcjfdackhgaigaaDoorPj
import Derived.Test.YtcjfdackhgaigaaDoorLs8
import Derived.Test.YtcjfdackhgaigaaDoorLm4
namespace Go.Proofs.YtcjfdackhgaigaaDoor
open Go.RowKit Go.Lib Go.Shelf

theorem owns_empty {α : Type} (D : Kd α) (e : TypeId) (w : World) : (w.alloc (.cells #[] e)).ownsRow w.heap.size e D.k (.slice (some ⟨w.heap.size, 0, none⟩) 0 0) ([] : List α).length (([] : List α).flatMap D.enc) :=
  ⟨by simp, .inr ⟨w.heap.size, 0, #[], rfl, Nat.le_refl _, heap_alloc_new w _, Nat.le_refl _, Nat.zero_le _, by simp, by simp⟩⟩
/-- append(row, records...), guarded -/
theorem wpList_append_g {α : Type} (D : Kd α) (w : World) {ops : Array Oper} {rest : List Oper} {o : Oper} {a : Act} {Q : Exit → Act → World → Prop} (hgw : Region.wanted o (yielded ops a.tmps) = true) (s x : Operand) (t e : TypeId)
    (ho : o.op = .call { callee := .builtin .append, args := #[s, x], argTypes := #[t, t] }) (z : Value) (bytes : Nat) (ht : Tryd.prog.underlying t = some (.slice e)) (hinfo : (Tryd.prog.info? e).map (fun i => (i.zero, i.size, i.bytes)) = some (some z, D.k, bytes)) (hzs : z.cells.size = D.k) (hby : bytes ≤ 160)
    (base : Nat) (v : Value) (ys xs : List α) (ao : Option Addr) (m c : Nat) (hs : a.eval s = v) (hown : w.ownsRow base e D.k v ys.length (ys.flatMap D.enc)) (hx : a.eval x = .slice ao m c) (hm : xs.length = m) (hl : Row D w ao c xs) (hbase : base ≤ w.heap.size)
    (hfew : ys.length + xs.length ≤ 879609302220)
    (h : ∀ v' w', w'.ownsRow base e D.k v' (ys ++ xs).length ((ys ++ xs).flatMap D.enc) → w.grownBy w' v.ownBlock → wpList Tryd.prog ops Q rest (a.put o.dst v') w') : wpList Tryd.prog ops Q (o :: rest) a w := by
  refine wpList_step fun K hK => ?_
  rw [if_pos hgw]
  obtain ⟨i0, hi, hz0, hz1, hz2⟩ := info_parts hinfo
  subst hm
  cases ao with
  | none =>
    obtain ⟨rfl, rfl⟩ := hl.void rfl
    have hrun := run_append_owned_none (P := Tryd.prog) (w := w) base t o.type e i0 D.k ht hi v ys.length _ hown
    have hK := hK _ _ (h v w (by simpa using hown) ⟨rfl, rfl, rfl, Nat.le_refl _, fun _ _ _ => rfl⟩)
    unfold Oper.wp
    simp [execOp, ho, resolve, invoke, builtin, hs, hx, hrun, Result.andThen]
    exact hK
  | some ad =>
    refine wp_append_own w s x t ho base e i0 z D.k bytes ht hi hz0 hz1 hz2 hzs D.pos _ ys.length _ hs hown ad xs.length c (xs.flatMap D.enc) hx (flat_len D.enc D.k D.len xs) (hl.cells ad rfl) (Row.flat_one D xs) (by unfold maxLen; omega) ?_ hbase ?_
    · refine Nat.le_trans (Nat.mul_le_mul hfew hby) (by decide)
    intro v' w' ho' hg' hn'
    exact hK _ _ (h v' w' (by rw [List.length_append, List.flatMap_append]; exact ho') hg')
theorem str_add (a b : List UInt8) : (⟨a.toArray⟩ : ByteArray) ++ ⟨b.toArray⟩ = ⟨(a ++ b).toArray⟩ := by
  apply ByteArray.ext
  simp

set_option maxRecDepth 100000 in
set_option maxHeartbeats 4000000 in
theorem parseJoins_walk (a b : List UInt8) (w : World) (hL : Laid w) (ha : a.length ≤ 140737488351232) (hb : b.length ≤ 140737488351232) :
    Calls Tryd.prog 4 #[str a, str b] w fun e w' => e = .returned (.bool true) ∧ Below w.heap.size w w' := by
  have hza := str_size a
  have hzb := str_size b
  have T1 := hideP (pprog_any a w (by omega) hL)
  have T2 := hideP (fun w hL => pprog_any b w (by omega) hL)
  have LV := hideP live_at
  cases hpa : Ps.prog a with
  | error x =>
    obtain ⟨p, er⟩ := x
    have q1 : (er != 0) = true := by simpa using prog_err_ne hpa
    rw [hpa] at T1
    simp only [Ps.rs, Ps.place, Ps.err, List.length_nil] at T1
    generalize Ps.rs (Ps.prog b) = r at *
    generalize Ps.place (Ps.prog b) = p2 at *
    generalize Ps.err (Ps.prog b) = er2 at *
    clear hpa
    go_enter Tryd.func4, Tryd.ntmps4
    go_wp2_with fail
    refine T1.out.mono ?_
    rintro e w1 ⟨⟨a1, c1, rfl, r1⟩, b1⟩
    go_wp2_with fail
    refine (T2.out _ (hL.below b1)).mono ?_
    rintro e w2 ⟨⟨a2, c2, rfl, r2⟩, b2⟩
    go_wp2_with (first
      | (go_at_call 11; refine (LV.out _ (hL.below (Below.then b1 b2))).mono ?_; rintro e w4 ⟨rfl, b4⟩))
    go_ret
    exact ⟨rfl, Below.then (Below.then b1 b2) b4⟩
  | ok l =>
    rw [hpa] at T1
    simp only [Ps.rs, Ps.place, Ps.err] at T1
    cases hpb : Ps.prog b with
    | error x =>
      obtain ⟨p, er⟩ := x
      have q1 : (er != 0) = true := by simpa using prog_err_ne hpb
      rw [hpb] at T2
      simp only [Ps.rs, Ps.place, Ps.err, List.length_nil] at T2
      clear hpa hpb
      go_enter Tryd.func4, Tryd.ntmps4
      go_wp2_with fail
      refine T1.out.mono ?_
      rintro e w1 ⟨⟨a1, c1, rfl, r1⟩, b1⟩
      go_wp2_with fail
      refine (T2.out _ (hL.below b1)).mono ?_
      rintro e w2 ⟨⟨a2, c2, rfl, r2⟩, b2⟩
      go_wp2_with (first
        | (go_at_call 11; refine (LV.out _ (hL.below (Below.then b1 b2))).mono ?_; rintro e w4 ⟨rfl, b4⟩))
      go_ret
      exact ⟨rfl, Below.then (Below.then b1 b2) b4⟩
    | ok m =>
      rw [hpb] at T2
      simp only [Ps.rs, Ps.place, Ps.err] at T2
      have few1 := Ps.prog_few hpa
      have few2 := Ps.prog_few hpb
      rcases Nat.lt_or_ge 4096 (a.length + 1 + b.length) with hbig | hsmall
      · have q2 : (a.length : Int) > 4095 - (b.length : Int) := by omega
        clear hpa hpb
        go_enter Tryd.func4, Tryd.ntmps4
        go_wp2_with fail
        refine T1.out.mono ?_
        rintro e w1 ⟨⟨a1, c1, rfl, r1⟩, b1⟩
        go_wp2_with fail
        refine (T2.out _ (hL.below b1)).mono ?_
        rintro e w2 ⟨⟨a2, c2, rfl, r2⟩, b2⟩
        go_wp2_with (first
          | (go_at_call 11; refine (LV.out _ (hL.below (Below.then b1 b2))).mono ?_; rintro e w4 ⟨rfl, b4⟩))
        go_ret
        exact ⟨rfl, Below.then (Below.then b1 b2) b4⟩
      · have q2 : ¬ (a.length : Int) > 4095 - (b.length : Int) := by omega
        obtain ⟨j1, j2⟩ := Ps.prog_join hpa hpb hsmall
        have e1 : (⟨a.toArray⟩ : ByteArray) ++ ⟨#[10]⟩ = ⟨(a ++ [10]).toArray⟩ := str_add a [10]
        have e2 : (⟨(a ++ [10]).toArray⟩ : ByteArray) ++ ⟨b.toArray⟩ = ⟨(a ++ 10 :: b).toArray⟩ := by
          have := str_add (a ++ [10]) b
          rw [List.append_assoc] at this
          exact this
        have z1 := str_size (a ++ [10])
        have n1 : (a ++ [10]).length = a.length + 1 := by simp
        have n2 : (a ++ 10 :: b).length = a.length + 1 + b.length := by simp; omega
        have hfit : (a ++ 10 :: b).length ≤ 281474976710656 := by omega
        clear hpa hpb
        rcases Nat.lt_or_ge 16 (l.length + m.length) with hmany | hfew
        · obtain ⟨p, hp, hpr⟩ := j2 hmany
          have T3 := hideP (fun w hL => pprog_err hpr w hfit hL)
          have q3 : (l.length : Int) + (m.length : Int) > 16 := by omega
          have q4 : (p : Int) > (a.length : Int) := by omega
          clear j1 j2 hpr
          generalize a ++ 10 :: b = ab at *
          generalize a ++ [10] = a10 at *
          go_enter Tryd.func4, Tryd.ntmps4
          go_wp2_with fail
          refine T1.out.mono ?_
          rintro e w1 ⟨⟨a1, c1, rfl, r1⟩, b1⟩
          go_wp2_with fail
          refine (T2.out _ (hL.below b1)).mono ?_
          rintro e w2 ⟨⟨a2, c2, rfl, r2⟩, b2⟩
          go_wp2_with fail
          refine (T3.out _ (hL.below (Below.then b1 b2))).mono ?_
          rintro e w3 ⟨⟨a3, c3, rfl, r3⟩, b3⟩
          go_wp2_with (first
            | (go_at_call 11; refine (LV.out _ (hL.below (Below.then (Below.then b1 b2) b3))).mono ?_; rintro e w4 ⟨rfl, b4⟩))
          go_ret
          exact ⟨rfl, Below.then (Below.then (Below.then b1 b2) b3) b4⟩
        · have T3 := hideP (fun w hL => pprog_ok (j1 hfew) w hfit hL)
          have q3 : ¬ (l.length : Int) + (m.length : Int) > 16 := by omega
          clear j1 j2
          generalize a ++ 10 :: b = ab at *
          generalize a ++ [10] = a10 at *
          go_enter Tryd.func4, Tryd.ntmps4
          go_wp2_with fail
          refine T1.out.mono ?_
          rintro e w1 ⟨⟨a1, c1, rfl, r1⟩, b1⟩
          go_wp2_with fail
          refine (T2.out _ (hL.below b1)).mono ?_
          rintro e w2 ⟨⟨a2, c2, rfl, r2⟩, b2⟩
          go_wp2_with fail
          refine (T3.out _ (hL.below (Below.then b1 b2))).mono ?_
          rintro e w3 ⟨⟨a3, c3, rfl, r3⟩, b3⟩
          have L3 := hL.below (Below.then (Below.then b1 b2) b3)
          have B3 := Below.then (Below.then b1 b2) b3
          obtain ⟨d1, f1, xs, hu1, hm1, row1, each1⟩ := r1.below (Below.then b2 b3)
          obtain ⟨d2, f2, ys, hu2, hm2, row2, each2⟩ := r2.below b3
          have lx : xs.length = l.length := by rw [← hm1, List.length_map]
          have ly : ys.length = m.length := by rw [← hm2, List.length_map]
          simp only [Value.slice.injEq] at hu1 hu2
          obtain ⟨rfl, t1, rfl⟩ := hu1
          obtain ⟨rfl, t2, rfl⟩ := hu2
          clear t1 t2
          have HM : Hid ((xs ++ ys).map Rv.r = l ++ m) := by show _ = _; rw [List.map_append, hm1, hm2]
          clear r1 r2 hm1 hm2 T1 T2 T3 b1 b2 b3
          have A4 := below_alloc w3 (.cells #[] 54)
          have O4 := owns_empty rK 54 w3
          have R1 := row1.row.below A4 (Nat.le_refl _)
          have hf1 : ([] : List Rv).length + xs.length ≤ 879609302220 := by simp only [List.length_nil]; omega
          have hf2 : xs.length + ys.length ≤ 879609302220 := by omega
          have LX := hideP lx
          have LY := hideP ly
          clear lx ly
          go_wp2_with (first
            | (at_builtin; refine wpList_append_g rK _ (by rfl) _ _ 22 54 rfl _ 160 Tryd.underlying22 Tryd.iRule rfl (by decide) w3.heap.size (.slice (some ⟨w3.heap.size, 0, none⟩) 0 0) [] xs a1 l.length c1 rfl O4 rfl LX.out R1 A4.size hf1 ?_; intro v5 w5 o5 g5; rw [List.nil_append] at o5; have A5 := A4.trans (grown_low O4 g5 A4.size); have R2 := row2.row.below A5 (Nat.le_refl _))
            | (at_builtin; refine wpList_append_g rK _ (by rfl) _ _ 22 54 rfl _ 160 Tryd.underlying22 Tryd.iRule rfl (by decide) w3.heap.size v5 xs ys a2 m.length c2 rfl o5 rfl LY.out R2 A5.size hf2 ?_; intro v6 w6 o6 g6; have A6 := A5.trans (grown_low o5 g6 A5.size)))
          obtain ⟨a6, c6, hv6, row6, _⟩ := own_row (D := rK) o6 (by rw [List.length_append]; omega)
          have K6 : RowsAt w6 (l ++ m) v6 := ⟨a6, c6, xs ++ ys, hv6, HM.out, row6, fun x hx => by
            rcases List.mem_append.1 hx with h1 | h1
            · exact (each1 x h1).below A6
            · exact (each2 x h1).below A6⟩
          have K3 : RowsAt w6 (l ++ m) (.slice a3 (l.length + m.length) c3) := by
            have := r3.below A6
            rw [List.length_append] at this
            exact this
          have L6 := L3.below A6
          refine (rlike_rows K3 K6).mono ?_
          rintro e w7 ⟨rfl, b7⟩
          clear hv6 K6 K3 o6 o5 O4 row6 row1 row2 R1 R2 r3
          go_wp2_with (first
            | (go_at_call 11; refine (LV.out _ (L6.below b7)).mono ?_; rintro e w8 ⟨rfl, b8⟩))
          go_ret
          exact ⟨rfl, Below.then (Below.then (Below.then B3 A6) b7) b8⟩
end Go.Proofs.YtcjfdackhgaigaaDoor
