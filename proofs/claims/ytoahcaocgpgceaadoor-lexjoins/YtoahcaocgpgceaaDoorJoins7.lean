/-
  LexJoins: its walk.
-/
import Derived.Test.YtoahcaocgpgceaaDoorLv
import Derived.Test.YtoahcaocgpgceaaDoorLm3
namespace Go.Proofs.YtoahcaocgpgceaaDoor
open Go.RowKit Go.Lib Go.Shelf

theorem cat_str (l m : List UInt8) : (⟨l.toArray⟩ : ByteArray) ++ ⟨m.toArray⟩ = ⟨(l ++ m).toArray⟩ := by
  apply ByteArray.ext
  simp
theorem tok_blk {w : World} {b : Nat} {t : Lx.Tok} (h : w.heap[b]? = some (.cells (tokv t).toArray 33)) :
    w.cell? ⟨b, 0, none⟩ = some (.int .i64 t.kind) ∧ w.cell? ⟨b, 1, none⟩ = some (str t.text) ∧ w.cell? ⟨b, 2, none⟩ = some (.int .i64 t.n) ∧ w.cell? ⟨b, 3, none⟩ = some (.int .i64 (t.pl : Int)) :=
  ⟨by rw [heap_cell h]; rfl, by rw [heap_cell h]; rfl, by rw [heap_cell h]; rfl, by rw [heap_cell h]; rfl⟩

set_option maxRecDepth 100000 in
set_option maxHeartbeats 4000000 in
theorem lexJoins_walk (a b : List UInt8) (w : World) (hL : Laid w) (ha : a.length ≤ 140737488351232) (hb : b.length ≤ 140737488351232) :
    Calls Tryd.prog 6 #[str a, str b] w fun e w' => e = .returned (.bool true) ∧ Below w.heap.size w w' := by
  have hsa := str_size a
  have hsb := str_size b
  have mixed : Tryd.prog.follows .mixedOrders = true := by kernel_rfl
  have iN : (Tryd.prog.info? 33).map (·.size) = some 4 := by kernel_rfl
  have T1 := hideP (ltokens_at a w (by omega) hL)
  have T2 := hideP (fun w hL => ltokens_at b w (by omega) hL)
  have LV := hideP live_at
  have c0 : (⟨a.toArray⟩ : ByteArray) ++ ⟨#[10]⟩ = ⟨(a ++ [10]).toArray⟩ := cat_str a [10]
  have c1 := cat_str (a ++ [10]) b
  have hs1 := str_size (a ++ [10])
  have hl1 : (a ++ [10]).length = a.length + 1 := by simp
  have c2 : (a ++ [10]) ++ b = a ++ 10 :: b := by simp
  rw [c2] at c1
  have T3 := hideP (fun (h : a.length + 1 + b.length ≤ 4096) w hL => ltokens_at (a ++ 10 :: b) w (by rw [List.length_append, List.length_cons]; omega) hL)
  have JN := hideP (fun L M h1 h2 h3 => Lx.ans_join (a := a) (b := b) (L := L) (M := M) h1 h2 h3)
  generalize a ++ 10 :: b = ab at *
  generalize a ++ [10] = a1 at *
  clear c2
  go_enter Tryd.func6, Tryd.ntmps6
  go_wp2_with fail
  refine T1.out.mono ?_
  rintro e w1 ⟨⟨d1, k1, rfl, r1, _⟩, b1⟩
  have L1 := hL.below b1
  go_wp2_with fail
  refine (T2.out _ L1).mono ?_
  rintro e w2 ⟨⟨d2, k2, rfl, r2, _⟩, b2⟩
  have L2 := L1.below b2
  have B2 := Below.then b1 b2
  cases hea : Lx.ans a with
  | error z =>
    obtain ⟨p, er⟩ := z
    have h2 := (Lx.ans_err hea).2
    simp only [Lx.toks_err, Lx.place_err, Lx.err_err, List.length_nil]
    have q1 : (er != 0) = true := by simpa using h2
    go_wp2_with (first
      | (go_at_call 12; refine (LV.out _ L2).mono ?_; rintro e w4 ⟨rfl, b4⟩))
    go_ret
    exact ⟨rfl, Below.then B2 b4⟩
  | ok L =>
    cases heb : Lx.ans b with
    | error z =>
      obtain ⟨p, er⟩ := z
      have h2 := (Lx.ans_err heb).2
      simp only [Lx.toks_err, Lx.place_err, Lx.err_err, Lx.toks_ok, Lx.place_ok, Lx.err_ok]
      have q1 : (er != 0) = true := by simpa using h2
      go_wp2_with (first
        | (go_at_call 12; refine (LV.out _ L2).mono ?_; rintro e w4 ⟨rfl, b4⟩))
      go_ret
      exact ⟨rfl, Below.then B2 b4⟩
    | ok M =>
      rcases Nat.lt_or_ge 4096 (a.length + 1 + b.length) with hbig | hbig
      · have q1 : (a.length : Int) > 4095 - (b.length : Int) := by omega
        simp only [Lx.toks_ok, Lx.place_ok, Lx.err_ok]
        go_wp2_with (first
          | (go_at_call 12; refine (LV.out _ L2).mono ?_; rintro e w4 ⟨rfl, b4⟩))
        go_ret
        exact ⟨rfl, Below.then B2 b4⟩
      · have q1 : ¬ (a.length : Int) > 4095 - (b.length : Int) := by omega
        rw [hea] at r1
        rw [heb] at r2
        have hj := JN.out L M hea heb hbig
        have HPL := hideP (Lx.ans_pl heb)
        simp only [Lx.toks_ok, Lx.place_ok, Lx.err_ok] at r1 r2 ⊢
        simp only [Int.natCast_zero] at *
        clear hea heb JN
        go_wp2_with fail
        refine (T3.out hbig _ L2).mono ?_
        rintro e w3 ⟨⟨d3, k3, rfl, r3, _⟩, b3⟩
        rw [hj] at r3 ⊢
        have hlen : (L ++ M.map (Lx.sh (a.length + 1))).length = L.length + M.length := by rw [List.length_append, List.length_map]
        simp only [Lx.toks_ok, Lx.place_ok, Lx.err_ok, hlen] at r3 ⊢
        simp only [Int.natCast_zero] at *
        have few := r3.row.few
        have room := r3.row.room
        rw [hlen] at few room
        have room1 := r1.row.room
        have room2 := r2.row.room
        have q2 : (((L.length + M.length : Nat) : Int) != (L.length : Int) + (M.length : Int)) = false := by simp
        have L3 := L2.below b3
        have B3 := Below.then B2 b3
        have R1 := r1.row.below (Below.then b2 b3) (Nat.le_refl _)
        have R2 := r2.row.below b3 (Nat.le_refl _)
        have R3 := r3.row
        clear r1 r2 r3
        go_wp2_with fail
        go_loopw [14] (fun u wr => ∃ j : Nat, u = .int .i64 (j : Int) ∧ j ≤ L.length + M.length ∧ Below w3.heap.size w3 wr) (fun u _ => L.length + M.length - (Lib.intOf u).toNat)
        case atStart => exact ⟨0, rfl, Nat.zero_le _, Below.refl _ _⟩
        case round =>
          obtain ⟨j, rfl, hj1, hbw⟩ := hrel
          rcases Nat.lt_or_ge j (L.length + M.length) with hlt | hge
          · have q3 : (j : Int) < ((L.length + M.length : Nat) : Int) := by omega
            have q3' : (j : Int) < (L.length : Int) + (M.length : Int) := by omega
            obtain ⟨P3, O3, rfl⟩ := R3.addr (by omega)
            have RG := (R3.below hbw (Nat.le_refl _)).range j (by omega)
            have Z0 := heap_alloc_new wr zTok
            rcases Nat.lt_or_ge j L.length with hjl | hjl
            · have q4 : (j : Int) < (L.length : Int) := by omega
              obtain ⟨P1, O1, rfl⟩ := R1.addr (by omega)
              rw [List.getElem_append_left hjl] at RG
              have R1w := R1.below hbw (Nat.le_refl _)
              have EQ := eqSelf L[j]
              have TC := fun W (hB : Below wr.heap.size wr W) => tok_cells (R1w.below hB (Nat.le_refl _)) j hjl
              generalize L[j] = t at *
              go_wp2_with (first
                | (refine wpList_load_mid rfl 33 _ rfl P3 (O3 + j * 4) rfl (tokv t) _ RG Tryd.underlying33 rfl iN ?_)
                | (refine wpList_store_all rfl 33 _ _ rfl wr.heap.size 4 _ 33 (tokv t) rfl rfl Z0 rfl rfl iN rfl ?_; intro w5 V5 b5; have B5 := below_tok b5; obtain ⟨x1, x2, x3, x4⟩ := tok_blk V5; obtain ⟨y1, y2, y3, y4⟩ := TC w5 B5))
              go_quiet (fail)
              go_wp2_with fail
              exact ⟨⟨j + 1, by go_num, by omega, hbw.trans ((Below.then B5 (Grew.drewN w5 nq).below).mono hbw.size)⟩, by simp [Lib.intOf]; omega⟩
            · have q4 : ¬ (j : Int) < (L.length : Int) := by omega
              obtain ⟨i, hi⟩ : ∃ i, j = L.length + i := ⟨j - L.length, by omega⟩
              have him : i < M.length := by omega
              have q5 : (j : Int) - (L.length : Int) = (i : Int) := by omega
              have q6 : (i : Int) < (M.length : Int) := by omega
              obtain ⟨P2, O2, rfl⟩ := R2.addr (by omega)
              have eg : (L ++ M.map (Lx.sh (a.length + 1)))[j]'(by omega) = Lx.sh (a.length + 1) M[i] := by
                subst hi
                rw [List.getElem_append_right (by omega), List.getElem_map]
                congr 2; omega
              rw [eg] at RG
              clear eg hi
              have R2w := R2.below hbw (Nat.le_refl _)
              have EQ := eqSelf M[i]
              have TC := fun W (hB : Below wr.heap.size wr W) => tok_cells (R2w.below hB (Nat.le_refl _)) i him
              have hpb := HPL.out M[i] (List.getElem_mem him)
              generalize M[i] = t at *
              obtain ⟨tp, hsh, hpl, htb⟩ : ∃ tp : Nat, Lx.sh (a.length + 1) t = ⟨t.kind, t.text, t.n, tp⟩ ∧ (tp : Int) - (a.length : Int) - 1 = (t.pl : Int) ∧ tp ≤ 4096 := ⟨a.length + 1 + t.pl, rfl, by omega, by omega⟩
              rw [hsh] at RG
              clear hsh
              go_wp2_with (first
                | (refine wpList_load_mid rfl 33 _ rfl P3 (O3 + j * 4) rfl (tokv ⟨t.kind, t.text, t.n, tp⟩) _ RG Tryd.underlying33 rfl iN ?_)
                | (refine wpList_store_all rfl 33 _ _ rfl wr.heap.size 4 _ 33 (tokv ⟨t.kind, t.text, t.n, tp⟩) rfl rfl Z0 rfl rfl iN rfl ?_; intro w5 V5 b5; have B5 := below_tok b5; have x5 : w5.cell? ⟨wr.heap.size, 3, none⟩ = some (.int .i64 (tp : Int)) := (by rw [heap_cell V5]; rfl))
                | (refine wpList_store_cel rfl 3 _ _ rfl wr.heap.size 3 4 33 (.int .i64 (t.pl : Int)) (tokv t).toArray rfl rfl V5 rfl (by decide) (by kernel_rfl) rfl rfl ?_; intro w6 V6 b6; have B6 := B5.trans (b6.lower (Nat.le_refl _) B5.size); obtain ⟨x1, x2, x3, x4⟩ := tok_blk V6; obtain ⟨y1, y2, y3, y4⟩ := TC w6 B6))
              go_quiet (fail)
              go_wp2_with fail
              exact ⟨⟨j + 1, by go_num, by omega, hbw.trans ((Below.then B6 (Grew.drewN w6 nq).below).mono hbw.size)⟩, by simp [Lib.intOf]; omega⟩
          · have q3 : ¬ (j : Int) < ((L.length + M.length : Nat) : Int) := by omega
            have q3' : ¬ (j : Int) < (L.length : Int) + (M.length : Int) := by omega
            have Lb := L3.below hbw
            go_wp2_with (first
              | (go_at_call 12; refine (LV.out _ Lb).mono ?_; rintro e w4 ⟨rfl, b4⟩))
            go_ret
            exact ⟨rfl, Below.then (Below.then B3 hbw) b4⟩
end Go.Proofs.YtoahcaocgpgceaaDoor
