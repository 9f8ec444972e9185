/-
  The reference's quote, number.
-/
import Derived.Test.YtcjfdackhgaigaaDoorRSk
import Derived.Deep.Cut
import Derived.Deep.DeepCutAuto
import Derived.Test.YtcjfdackhgaigaaDoorLd
namespace Go.Proofs.YtcjfdackhgaigaaDoor
open Go.RowKit Go.Lib Go.Shelf

/-- what the reference's functions of one token answer -/
def rres : Option (Lx.Tok × Nat) → Lx.Tok × Int
  | none => (pz, -1)
  | some (t, e) => (t, (e : Int))
def tokQ (r : Lx.Tok × Int) : Ending := .returned (.tuple #[.agg (tokv r.1).toArray, .int .i64 r.2])
theorem results_cell_one {P : Program} {fn : Func} {p q : Tmp} {ty : TypeId} {tmps : Array Value} {w : World} {b : Nat} {C : Array Value} {d : TypeDesc} {T : TypeId} (h : fn.results = #[.cell p ty, .tmp q]) (hp : tmps.getD p undef = .pointer (some ⟨b, 0, none⟩)) (hc : w.heap[b]? = some (.cells C T))
    (hu : P.underlying ty = some d) (hd : d.isRow = true) (hi : (P.info? ty).map (·.size) = some C.size) : (results fn tmps).run P w = .ok (.tuple #[.agg C, tmps.getD q undef]) w := by
  have hr : w.rangeAt b 0 C.toList := by
    have := World.rangeAt_of_block hc 0 C.size
    simpa using this
  simp only [Array.getD_eq_getD_getElem?] at hp ⊢
  simp only [results, h]
  simp [asAddr, hp, run_loadVar_mid w b 0 ty C.toList d hr hu hd (by simpa using hi)]

set_option maxRecDepth 100000 in
set_option maxHeartbeats 1000000 in
theorem rquote_at (l : List UInt8) (i : Nat) (w : World) (hr : l.length ≤ 281474976710656) (hi : i < l.length) :
    Calls Tryd.prog 42 #[str l, .int .i64 (i : Int)] w fun e w' => e = tokQ (rres (Lx.quote l i)) ∧ Below w.heap.size w w' := by
  have hsz := str_size l
  have iN : (Tryd.prog.info? 35).map (·.size) = some 4 := by kernel_rfl
  have R1 := Lx.run_le Lx.plain (l := l) (i := i + 1) hi
  have R2 := Lx.le_run Lx.plain l (i + 1)
  have hw : Lx.quote l i = if l[Lx.run Lx.plain l (i + 1)]?.map (·.toNat) = some 34 then some (⟨4, Lx.sub l (i + 1) (Lx.run Lx.plain l (i + 1)), 0, i⟩, Lx.run Lx.plain l (i + 1) + 1) else none := rfl
  have hs := extract_sub l (i + 1) (Lx.run Lx.plain l (i + 1)) R1
  have HW := hideP hw
  clear hw
  have H0 := heap_alloc_new w zTok
  have HP := hideP rplain_at
  go_enter Tryd.func42, Tryd.ntmps42
  go_wp2_with fail
  go_loop [6] (fun x => ∃ k : Nat, x = .int .i64 (k : Int) ∧ i + 1 ≤ k ∧ k ≤ l.length ∧ Lx.run Lx.plain l (i + 1) = Lx.run Lx.plain l k) (fun x => l.length - (Lib.intOf x).toNat)
  case atStart => exact ⟨i + 1, by go_num, Nat.le_refl _, hi, rfl⟩
  case round =>
    obtain ⟨k, rfl, hik, hk, he⟩ := hrel
    have HE := hideP he
    clear he
    rcases Nat.lt_or_ge k l.length with hlt | hge
    · have hlt' : (k : Int) < (l.length : Int) := by omega
      have hge' : ¬ (k : Int) ≥ (l.length : Int) := by omega
      have D := hideP (HP.out l[k])
      have S1 := hideP (fun h => Lx.run_step (p := Lx.plain) (l := l) (i := k) hlt h)
      have S2 := hideP (fun h => Lx.run_stop (p := Lx.plain) (l := l) (i := k) hlt h)
      have hg : ∀ h, ((⟨l.toArray⟩ : ByteArray)[k]'h).toNat = l[k].toNat := fun _ => rfl
      have hy := hideP (fun (e : Lx.run Lx.plain l (i + 1) = k) (h : l[k].toNat = 34) => show Lx.quote l i = some (⟨4, Lx.sub l (i + 1) k, 0, i⟩, k + 1) by rw [HW.out, e, if_pos (by simp [hlt, h])])
      have hn := hideP (fun (e : Lx.run Lx.plain l (i + 1) = k) (h : ¬ l[k].toNat = 34) => show Lx.quote l i = none by rw [HW.out, e, if_neg (by simp [hlt, h])])
      have hsk := extract_sub l (i + 1) k hk
      have q1 : (i : Int) + 1 ≤ (k : Int) := by omega
      generalize Lx.plain l[k] = b at *
      generalize hx : l[k].toNat = x at *
      simp only [hx] at hg
      go_wp2_with (first
        | (go_at_call 60; refine (D.out _).mono ?_; rintro e w1 ⟨rfl, rfl⟩)
        | (refine wpList_store_all rfl 35 _ _ rfl w.heap.size 4 _ 35 _ rfl rfl H0 rfl rfl iN rfl ?_; intro w4 H4 b4))
      · refine ⟨⟨k + 1, by go_num, by omega, by omega, ?_⟩, by simp [Lib.intOf]; omega⟩
        rw [HE.out, S1.out (by assumption)]
      all_goals (have e : Lx.run Lx.plain l (i + 1) = k := by rw [HE.out, S2.out (by assumption)])
      all_goals refine bodyPost_ret (results_cell_one rfl rfl H4 Tryd.underlying35 rfl (by kernel_rfl)) rfl ⟨?_, below_tok b4⟩
      all_goals (try simp only [bne_iff_ne] at *)
      all_goals (try simp only [bne_eq_false_iff_eq] at *)
      · rw [hn.out e (by omega)]; rfl
      · rw [hy.out e (by omega)]; rfl
    · have hlt' : ¬ (k : Int) < (l.length : Int) := by omega
      have hge' : (k : Int) ≥ (l.length : Int) := by omega
      go_wp2_with (first
        | (refine wpList_store_all rfl 35 _ _ rfl w.heap.size 4 _ 35 _ rfl rfl H0 rfl rfl iN rfl ?_; intro w4 H4 b4))
      refine bodyPost_ret (results_cell_one rfl rfl H4 Tryd.underlying35 rfl (by kernel_rfl)) rfl ⟨?_, below_tok b4⟩
      have e : Lx.run Lx.plain l (i + 1) = k := by rw [HE.out, Lx.run_end hge]
      rw [HW.out, e, List.getElem?_eq_none hge]; rfl

theorem w64 {n : Int} (h : -9223372036854775808 ≤ n ∧ n ≤ 9223372036854775807) : wrap64 n = n := by unfold wrap64; omega
theorem tdiv_lt {n d : Int} (h0 : 0 ≤ d) (h1 : d ≤ 9) : (n < (-9223372036854775808 + d).tdiv 10) ↔ 10 * n - d < -9223372036854775808 := by
  have e : (-9223372036854775808 + d).tdiv 10 = -((9223372036854775808 - d).tdiv 10) := by
    rw [← Int.neg_tdiv]; congr 1; omega
  rw [e, Int.tdiv_eq_ediv_of_nonneg (by omega)]
  omega

set_option maxRecDepth 100000 in
set_option maxHeartbeats 2000000 in
theorem rnumber_at (l : List UInt8) (i : Nat) (w : World) (hr : l.length ≤ 281474976710656) (hi : i < l.length) :
    Calls Tryd.prog 41 #[str l, .int .i64 (i : Int)] w fun e w' => e = tokQ (rres (Lx.number l i)) ∧ Below w.heap.size w w' := by
  have hsz := str_size l
  have hi' : (i : Int) < (l.length : Int) := by omega
  have iN : (Tryd.prog.info? 35).map (·.size) = some 4 := by kernel_rfl
  have hg : ∀ h, ((⟨l.toArray⟩ : ByteArray)[i]'h).toNat = l[i].toNat := fun _ => rfl
  have H0 := heap_alloc_new w zTok
  have HP := hideP rdigit_at
  have hf : ((l[i].toNat : Int) == 45) = Lx.isNeg l i := by rw [Lx.isNeg_at hi, Bool.eq_iff_iff]; simp; omega
  have hff : Lx.first l i = if Lx.isNeg l i = true then i + 1 else i := rfl
  have hfl := Lx.first_lt hi
  have hfi := Lx.first_le l i
  have hn : Lx.number l i = (Lx.numOf (Lx.isNeg l i) (Lx.sub l (Lx.first l i) (Lx.run Lx.digit l (Lx.first l i)))).map fun v => (⟨3, [], v, i⟩, Lx.run Lx.digit l (Lx.first l i)) := rfl
  have R1 := Lx.run_le Lx.digit hfl
  have R2 := Lx.le_run Lx.digit l (Lx.first l i)
  generalize Lx.isNeg l i = neg at *
  generalize Lx.first l i = f at *
  have HF := hideP hff
  have HN := hideP hn
  clear hff hn
  go_enter Tryd.func41, Tryd.ntmps41
  go_upto_region 1 with fail
  go_cut [6] (fun t wc => t = .int .i64 (i : Int) ∧ wc = w.alloc zTok)
  case first =>
    go_wp2_with fail
    go_meet
    exact ⟨rfl, rfl⟩
  obtain ⟨rfl, rfl⟩ := hcut
  rename_i K hK
  apply hK
  apply wp_seq_k; intro _ _
  go_cut [6] (fun t wc => t = .int .i64 (f : Int) ∧ wc = w.alloc zTok)
  case first =>
    cases neg
    · have e := HF.out
      go_wp2_with fail
      go_meet
      exact ⟨by rw [e]; rfl, rfl⟩
    · have e := HF.out
      go_wp2_with fail
      go_meet
      exact ⟨by rw [e]; rfl, rfl⟩
  obtain ⟨rfl, rfl⟩ := hcut
  go_wp2_with fail
  go_loop [6, 8] (fun x y => ∃ k : Nat, x = .int .i64 (k : Int) ∧ y = .int .i64 (-(Lx.dval (Lx.sub l f k) : Int)) ∧ f ≤ k ∧ k ≤ l.length ∧ Lx.dval (Lx.sub l f k) ≤ 9223372036854775808 ∧ Lx.run Lx.digit l f = Lx.run Lx.digit l k) (fun x _ => l.length - (Lib.intOf x).toNat)
  case atStart => exact ⟨f, rfl, by rw [Lx.sub_self]; rfl, Nat.le_refl _, hfl, by rw [Lx.sub_self]; decide, rfl⟩
  case round =>
    obtain ⟨k, rfl, rfl, hfk, hk, hv, he⟩ := hrel
    have HE := hideP he
    clear he
    rcases Nat.lt_or_ge k l.length with hlt | hge
    · have hlt' : (k : Int) < (l.length : Int) := by omega
      have D := hideP (HP.out l[k])
      have S1 := hideP (fun h => Lx.run_step (p := Lx.digit) (l := l) (i := k) hlt h)
      have S2 := hideP (fun h => Lx.run_stop (p := Lx.digit) (l := l) (i := k) hlt h)
      have hgk : ∀ h, ((⟨l.toArray⟩ : ByteArray)[k]'h).toNat = l[k].toNat := fun _ => rfl
      have hsn := hideP (Lx.dval_snoc hfk hlt)
      cases hb : Lx.digit l[k] with
      | true =>
        have hd := Lx.digit_le hb
        have r1 := S1.out hb
        rw [hb] at D
        have big := hideP (fun h : 9223372036854775808 < Lx.dval (Lx.sub l f (k + 1)) => show Lx.number l i = none by
          rw [HN.out, Lx.num_big (Nat.lt_of_lt_of_le h (Lx.dval_mono (by omega) (by rw [HE.out, r1]; exact Lx.le_run _ _ _)))]; rfl)
        have HR := hideP (HE.out.trans r1)
        clear S1 S2 hb r1 HE
        obtain ⟨V, hV0⟩ : ∃ V, Lx.dval (Lx.sub l f (k + 1)) = V := ⟨_, rfl⟩
        rw [hV0] at hsn big
        have HV := hideP hV0
        clear hV0
        generalize Lx.dval (Lx.sub l f k) = v at *
        generalize hx : l[k].toNat = x at *
        simp only [hx] at hgk
        obtain ⟨hd1, hd2⟩ := hd
        obtain ⟨y, rfl⟩ : ∃ y, x = 48 + y := ⟨x - 48, by omega⟩
        have q1 : (48 : Int) ≤ ((48 + y : Nat) : Int) := by omega
        have q2 : ((48 + y : Nat) : Int) ≤ 57 := by omega
        have HT := hideP (tdiv_lt (n := -(v : Int)) (d := 48 + (y : Int) - 48) (by omega) (by omega))
        go_wp2_with (first
          | (go_at_call 40; refine (D.out _).mono ?_; rintro e w1 ⟨rfl, rfl⟩)
          | (refine wpList_store_all rfl 35 _ _ rfl w.heap.size 4 _ 35 _ rfl rfl H0 rfl rfl iN rfl ?_; intro w4 H4 b4))
        · have hlt2 := HT.out.1 (by assumption)
          refine bodyPost_ret (results_cell_one rfl rfl H4 Tryd.underlying35 rfl (by kernel_rfl)) rfl ⟨?_, below_tok b4⟩
          have := hsn.out
          rw [big.out (by omega)]; rfl
        · have hlt2 : ¬ (10 * -(v : Int) - (48 + (y : Int) - 48) < -9223372036854775808) := fun h => by have := HT.out.2 h; omega
          have hV := hsn.out
          refine ⟨⟨k + 1, by go_num, ?_, by omega, by omega, by rw [HV.out]; omega, HR.out⟩, by simp [Lib.intOf]; omega⟩
          rw [HV.out, w64 (n := 10 * -(v : Int)) (by omega), w64 (by omega)]
          congr 1; omega
      | false =>
        have hrun := HE.out.trans (S2.out hb)
        rw [hb] at D
        have A1 : Hid (∀ W, Calls Tryd.prog 40 #[.int .u8 (l[k].toNat : Int)] W fun e w' => e = .returned (.bool false) ∧ W = w') := D
        clear S1 S2 hb HE hsn D
        rw [hrun] at HN
        clear hrun
        rcases Nat.lt_or_ge f k with hfk2 | hfk2
        · have hfl2 : (f : Int) < (l.length : Int) := by omega
          have q0 : ((k : Int) == (f : Int)) = false := by simp; omega
          have hgf : ∀ h, ((⟨l.toArray⟩ : ByteArray)[f]'h).toNat = l[f].toNat := fun _ => rfl
          have Z1 := hideP (fun h0 h1 => Lx.num_zero (neg := neg) hfk2 hk h0 h1)
          have Z2 := hideP (fun h0 => Lx.num_neg hfk2 hk h0 hv)
          have Z3 := hideP (fun h0 hv => Lx.num_pos hfk2 hk h0 hv)
          have Z4 := hideP (fun hv => Lx.num_edge (ds := Lx.sub l f k) hv)
          generalize Lx.dval (Lx.sub l f k) = v at *
          generalize hx : l[f].toNat = x at *
          simp only [hx] at hgf
          have e := HF.out
          cases neg
          · have g1 : ¬ (f : Int) > (i : Int) := by simp at e; omega
            have g2 : ((f : Int) == (i : Int)) = true := by simp at e ⊢; omega
            have g3 := hideP (fun h : v < 9223372036854775808 => w64 (n := (v : Int)) (by omega))
            clear e
            go_wp2_with (first
              | (go_at_call 40; refine (A1.out _).mono ?_; rintro e w1 ⟨rfl, rfl⟩)
              | (refine wpList_store_all rfl 35 _ _ rfl w.heap.size 4 _ 35 _ rfl rfl H0 rfl rfl iN rfl ?_; intro w4 H4 b4))
            all_goals refine bodyPost_ret (results_cell_one rfl rfl H4 Tryd.underlying35 rfl (by kernel_rfl)) rfl ⟨?_, below_tok b4⟩
            all_goals (try simp only [beq_iff_eq] at *)
            all_goals (try simp only [beq_eq_false_iff_ne] at *)
            all_goals first
              | (rw [HN.out, Z1.out (by omega) (by first | (left; omega) | (right; trivial))]; rfl)
              | (rw [HN.out, Z4.out (by omega)]; rfl)
              | (rw [HN.out, Z3.out (fun ⟨ha, hb⟩ => by rcases hb with hb | hb; omega; cases hb) (by omega), g3.out (by omega)]; rfl)
          · have g1 : (f : Int) > (i : Int) := by simp at e; omega
            have g2 : ((f : Int) == (i : Int)) = false := by simp at e ⊢; omega
            clear e
            go_wp2_with (first
              | (go_at_call 40; refine (A1.out _).mono ?_; rintro e w1 ⟨rfl, rfl⟩)
              | (refine wpList_store_all rfl 35 _ _ rfl w.heap.size 4 _ 35 _ rfl rfl H0 rfl rfl iN rfl ?_; intro w4 H4 b4))
            all_goals refine bodyPost_ret (results_cell_one rfl rfl H4 Tryd.underlying35 rfl (by kernel_rfl)) rfl ⟨?_, below_tok b4⟩
            all_goals (try simp only [beq_iff_eq] at *)
            all_goals (try simp only [beq_eq_false_iff_ne] at *)
            all_goals first
              | (rw [HN.out, Z1.out (by omega) (by first | (left; omega) | (right; trivial))]; rfl)
              | (rw [HN.out, Z2.out (fun ⟨ha, _⟩ => by omega)]; rfl)
        · have q0 : ((k : Int) == (f : Int)) = true := by simp; omega
          go_wp2_with (first
            | (go_at_call 40; refine (A1.out _).mono ?_; rintro e w1 ⟨rfl, rfl⟩)
            | (refine wpList_store_all rfl 35 _ _ rfl w.heap.size 4 _ 35 _ rfl rfl H0 rfl rfl iN rfl ?_; intro w4 H4 b4))
          refine bodyPost_ret (results_cell_one rfl rfl H4 Tryd.underlying35 rfl (by kernel_rfl)) rfl ⟨?_, below_tok b4⟩
          have ek : k = f := by omega
          subst ek
          rw [HN.out, Lx.num_nil]; rfl
    · have hge' : ¬ (k : Int) < (l.length : Int) := by omega
      have hrun := HE.out.trans (Lx.run_end hge)
      clear HE
      rw [hrun] at HN
      clear hrun
      rcases Nat.lt_or_ge f k with hfk2 | hfk2
      · have hfl2 : (f : Int) < (l.length : Int) := by omega
        have q0 : ((k : Int) == (f : Int)) = false := by simp; omega
        have hgf : ∀ h, ((⟨l.toArray⟩ : ByteArray)[f]'h).toNat = l[f].toNat := fun _ => rfl
        have Z1 := hideP (fun h0 h1 => Lx.num_zero (neg := neg) hfk2 hk h0 h1)
        have Z2 := hideP (fun h0 => Lx.num_neg hfk2 hk h0 hv)
        have Z3 := hideP (fun h0 hv => Lx.num_pos hfk2 hk h0 hv)
        have Z4 := hideP (fun hv => Lx.num_edge (ds := Lx.sub l f k) hv)
        generalize Lx.dval (Lx.sub l f k) = v at *
        generalize hx : l[f].toNat = x at *
        simp only [hx] at hgf
        have e := HF.out
        cases neg
        · have g1 : ¬ (f : Int) > (i : Int) := by simp at e; omega
          have g2 : ((f : Int) == (i : Int)) = true := by simp at e ⊢; omega
          have g3 := hideP (fun h : v < 9223372036854775808 => w64 (n := (v : Int)) (by omega))
          clear e
          go_wp2_with (first
            | (refine wpList_store_all rfl 35 _ _ rfl w.heap.size 4 _ 35 _ rfl rfl H0 rfl rfl iN rfl ?_; intro w4 H4 b4))
          all_goals refine bodyPost_ret (results_cell_one rfl rfl H4 Tryd.underlying35 rfl (by kernel_rfl)) rfl ⟨?_, below_tok b4⟩
          all_goals (try simp only [beq_iff_eq] at *)
          all_goals (try simp only [beq_eq_false_iff_ne] at *)
          all_goals first
            | (rw [HN.out, Z1.out (by omega) (by first | (left; omega) | (right; trivial))]; rfl)
            | (rw [HN.out, Z4.out (by omega)]; rfl)
            | (rw [HN.out, Z3.out (fun ⟨ha, hb⟩ => by rcases hb with hb | hb; omega; cases hb) (by omega), g3.out (by omega)]; rfl)
        · have g1 : (f : Int) > (i : Int) := by simp at e; omega
          have g2 : ((f : Int) == (i : Int)) = false := by simp at e ⊢; omega
          clear e
          go_wp2_with (first
            | (refine wpList_store_all rfl 35 _ _ rfl w.heap.size 4 _ 35 _ rfl rfl H0 rfl rfl iN rfl ?_; intro w4 H4 b4))
          all_goals refine bodyPost_ret (results_cell_one rfl rfl H4 Tryd.underlying35 rfl (by kernel_rfl)) rfl ⟨?_, below_tok b4⟩
          all_goals (try simp only [beq_iff_eq] at *)
          all_goals (try simp only [beq_eq_false_iff_ne] at *)
          all_goals first
            | (rw [HN.out, Z1.out (by omega) (by first | (left; omega) | (right; trivial))]; rfl)
            | (rw [HN.out, Z2.out (fun ⟨ha, _⟩ => by omega)]; rfl)
      · have q0 : ((k : Int) == (f : Int)) = true := by simp; omega
        go_wp2_with (first
          | (refine wpList_store_all rfl 35 _ _ rfl w.heap.size 4 _ 35 _ rfl rfl H0 rfl rfl iN rfl ?_; intro w4 H4 b4))
        refine bodyPost_ret (results_cell_one rfl rfl H4 Tryd.underlying35 rfl (by kernel_rfl)) rfl ⟨?_, below_tok b4⟩
        have ek : k = f := by omega
        subst ek
        rw [HN.out, Lx.num_nil]; rfl
end Go.Proofs.YtcjfdackhgaigaaDoor
