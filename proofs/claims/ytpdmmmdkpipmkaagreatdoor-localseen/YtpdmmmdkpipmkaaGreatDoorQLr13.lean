/-
  The program's Program: whether rules may be run, or what is wrong first.
-/
import Derived.Test.YtpdmmmdkpipmkaaGreatDoorQVj
import Derived.Test.YtpdmmmdkpipmkaaGreatDoorQLq13
namespace Go.Proofs.YtpdmmmdkpipmkaaGreatDoor
open Go.RowKit Go.Lib Go.Shelf

def ansV (p : Int × Int × Int) : Value := .tuple #[.int .i64 p.1, .int .i64 p.2.1, .int .i64 p.2.2]
theorem one_len {s s' : Ck.Seen} {r : Ru} (h : Ck.one s r = .ok s') : s'.length ≤ s.length + 5 := by
  obtain ⟨hw, _, rfl⟩ := Ck.one_ok h
  exact arit_len (Ck.shown hw.shape).few

set_option maxRecDepth 100000 in
set_option maxHeartbeats 1000000 in
theorem checkProg_at (a : Option Addr) (c : Nat) (xs : List Rv) (w : World) (hL : Laid w) (hx : Rws w a c xs) (hi : ∀ x ∈ xs, Sh.RIn x.r) :
    Calls Tryz.prog 26 #[.slice a xs.length c] w fun e w' => e = .returned (ansV (Ck.prog (xs.map Rv.r))) ∧ Below w.heap.size w w' := by
  have hml : (xs.map Rv.r).length = xs.length := List.length_map ..
  have few := hx.row.few
  have HP : Hid (Ck.prog (xs.map Rv.r) = if 16 < (xs.map Rv.r).length then (81, -1, -1) else Ck.go 0 [] (xs.map Rv.r)) := rfl
  rw [hml] at HP
  by_cases h16 : 16 < xs.length
  · have q : (xs.length : Int) > 16 := by omega
    rw [if_pos h16] at HP
    go_enter Tryz.func26, Tryz.ntmps26
    go_wp2_with fail
    go_ret3
    exact ⟨by rw [HP.out]; rfl, Below.refl _ _⟩
  have q : ¬ (xs.length : Int) > 16 := by omega
  rw [if_neg h16] at HP
  have hmm := fun W => (show (Instr.makeMap 87 none).run Tryz.prog W = .ok (.map (some W.heap.size)) (W.alloc (.map #[] 0)) from rfl)
  have A0 := below_alloc w (.map #[] 0)
  have S0 := sizes_new w
  go_enter Tryz.func26, Tryz.ntmps26
  go_wp2_with fail
  go_loopw [6, 7, 8, 9, 16] (fun _ _ _ _ v wr => ∃ (j : Nat) (s' : Ck.Seen), v = .int .i64 (j : Int) ∧ j ≤ xs.length ∧ SizesAt wr w.heap.size s' ∧ Below w.heap.size w wr ∧ Hid (Ck.prog (xs.map Rv.r) = Ck.go j s' ((xs.map Rv.r).drop j)) ∧ s'.length ≤ 5 * j) (fun _ _ _ _ v _ => xs.length - (RowKit.intOf v).toNat)
  case atStart => exact ⟨0, [], rfl, Nat.zero_le _, S0, A0, by rw [List.drop_zero]; exact HP, by simp⟩
  case round =>
    obtain ⟨j, s', rfl, hj, S, B, HJ, hjl⟩ := hrel
    by_cases hlt : j < xs.length
    · have q2 : (j : Int) < (xs.length : Int) := by omega
      have hjr : j < (xs.map Rv.r).length := by omega
      obtain ⟨P1, O1, rfl⟩ := hx.row.addr (Nat.lt_of_le_of_lt (Nat.zero_le _) hlt)
      have r1 : wr.rangeAt P1 (O1 + j * 11) (rv (xs[j]'hlt)) := (hx.row.below B (Nat.le_refl _)).range j hlt
      have aP := (hx.each _ (List.getElem_mem hlt)).below B (Nat.le_refl _)
      have hyi := hi _ (List.getElem_mem hlt)
      rw [List.drop_eq_getElem_cons hjr, Ck.go, List.getElem_map] at HJ
      generalize (xs[j]'hlt) = y at *
      have iP : (Tryz.prog.info? 48).map (·.size) = some (rv y).length := Tryz.iR11
      go_upto_region 7 with (first
        | (refine wpList_load_mid rfl 48 _ rfl P1 (O1 + j * 11) rfl (rv y) _ r1 Tryz.underlying48 rfl iP ?_)
        | (refine wpList_store_all rfl 48 _ _ rfl wr.heap.size 11 _ 48 (rv y) rfl rfl (heap_alloc_new wr _) rfl rfl Tryz.iR11 rfl ?_; intro w2 H2 d2; have b2 := below_tok d2))
      have B2 := B.trans (b2.mono B.size)
      have S2 := S.next b2
      go_wp2_with (refine wpList_load_all rfl 48 _ rfl wr.heap.size 11 48 (rv y) _ rfl H2 rfl Tryz.underlying48 rfl Tryz.iR11 ?_)
      refine (fault_at w.heap.size y s' w2 (hL.below B2) S2 (aP.below b2 (Nat.le_refl _)) hyi (by omega)).mono ?_
      rintro e w3 ⟨h3, b3⟩
      have B3 := B2.trans (b3.lower (Nat.le_refl _) B2.size)
      cases ho : Ck.one s' y.r with
      | error z =>
        obtain ⟨z1, z2⟩ := z
        have hz : z1 ≠ 0 := Ck.one_err ho
        have q3 : (z1 != 0) = true := by simpa using hz
        rw [ho] at h3 HJ
        simp only [FaultAns] at h3
        subst h3
        simp only at HJ
        clear ho hz
        go_wp2_with fail
        go_ret3
        rw [HJ.out]
        exact ⟨rfl, B3⟩
      | ok s2 =>
        have hl2 := one_len ho
        rw [ho] at h3 HJ
        obtain ⟨rfl, S3⟩ := h3
        simp only at HJ
        clear ho
        go_wp2_with fail
        exact ⟨⟨j + 1, s2, by go_num, by omega, S3, B3, HJ, by omega⟩, by simp [RowKit.intOf]; omega⟩
    · have q2 : ¬ (j : Int) < (xs.length : Int) := by omega
      rw [List.drop_of_length_le (by omega), Ck.go] at HJ
      go_wp2_with fail
      go_ret3
      rw [HJ.out]
      exact ⟨rfl, B⟩
end Go.Proofs.YtpdmmmdkpipmkaaGreatDoor

/-
  The program's Rewrite: what rules become, or why not.
-/
namespace Go.Proofs.YtpdmmmdkpipmkaaGreatDoor
open Go.RowKit Go.Lib Go.Shelf

/-- the rules that came, rule by rule -/
structure SpR (m B : Nat) (w : World) (l : List Ru) (j : Nat) (ys : List Rv) (v : Value) (wr : World) : Prop where
  all : wr.ownsRow B 48 rK.k v ys.length (ys.flatMap rK.enc)
  mB : m ≤ B ∧ w.heap.size ≤ B ∧ B ≤ wr.heap.size
  rules : ∀ y ∈ ys, Rv.Ao m wr y
  way : Lc.WayR l j (ys.map Rv.r)
  bel : Below w.heap.size w wr
  len : ys.length ≤ 700 * j
theorem SpR.next {m B : Nat} {w : World} {l : List Ru} {j : Nat} {ys : List Rv} {v : Value} {wr w' : World} (h : SpR m B w l j ys v wr) (b : Below wr.heap.size wr w') : SpR m B w l j ys v w' := by
  have K : Kq m wr w' := Kq.below b (Nat.le_trans h.mB.1 h.mB.2.2)
  exact ⟨ownsRow_keep h.all (Safe.below b), ⟨h.mB.1, h.mB.2.1, Nat.le_trans h.mB.2.2 b.size⟩, fun y hy => (h.rules y hy).safe K, h.way, h.bel.trans (b.mono h.bel.size), h.len⟩
theorem SpR.more {m B : Nat} {w : World} {l : List Ru} {j : Nat} {ys zs : List Rv} {v v' : Value} {wr w' : World} (h : SpR m B w l j ys v wr) (hj : j < l.length) (hz : zs.map Rv.r = Lc.one j l[j]) (hza : ∀ z ∈ zs, Rv.Ao m wr z) (hl : zs.length ≤ 700)
    (ho : w'.ownsRow B 48 rK.k v' (ys ++ zs).length ((ys ++ zs).flatMap rK.enc)) (hg : wr.grownBy w' v.ownBlock) : SpR m B w l (j + 1) (ys ++ zs) v' w' := by
  obtain ⟨m1, m2, m3⟩ := h.mB
  have K : Kq m wr w' := Kq.rules h.all hg m1 m3
  have Bl := own_below h.all hg m3
  refine ⟨ho, ⟨m1, m2, Nat.le_trans m3 Bl.size⟩, fun y hy => ?_, ?_, h.bel.trans (Bl.mono m2), by have := h.len; simp only [List.length_append]; omega⟩
  · rcases List.mem_append.1 hy with hy | hy
    · exact (h.rules y hy).safe K
    · exact (hza y hy).safe K
  · rw [List.map_append, hz]
    exact h.way.step hj
/-- what Rewrite answers -/
def RwAns (m : Nat) (l : List Ru) (e : Ending) (w' : World) : Prop := ∃ (a : Option Addr) (c : Nat) (ys : List Rv), e = .returned (.tuple #[.slice a (List.length ys) c, .int .i64 (Ck.prog l).1]) ∧ Row rK w' a c ys ∧ (∀ y ∈ ys, Rv.Ao m w' y) ∧ ys.map Rv.r = (if (Ck.prog l).1 = 0 then Lc.rw 0 l else [])
theorem one_few {x : Rv} (h : Ck.Shown x.r) (i : Nat) : (Lc.one i x.r).length ≤ 700 := by
  have := Lc.one_le i x.r
  have := h.few
  omega

set_option maxRecDepth 100000 in
set_option maxHeartbeats 1000000 in
theorem rewrite_at (a : Option Addr) (c : Nat) (xs : List Rv) (w : World) (hL : Laid w) (hx : Rws w a c xs) (hi : ∀ x ∈ xs, Sh.RIn x.r) :
    Calls Tryz.prog 12 #[.slice a xs.length c] w fun e w' => RwAns 0 (xs.map Rv.r) e w' ∧ Below w.heap.size w w' := by
  have T1 := hideP (checkProg_at a c xs w hL hx hi)
  have HX := hideP hx
  have HLd := hideP hL
  obtain ⟨p1, p2, p3, hp⟩ : ∃ p1 p2 p3, Hid (Ck.prog (xs.map Rv.r) = (p1, p2, p3)) := ⟨_, _, _, rfl⟩
  rw [hp.out] at T1
  simp only [ansV] at T1
  clear hx hL hi
  go_enter Tryz.func12, Tryz.ntmps12
  go_wp2_with fail
  refine T1.out.mono ?_
  rintro e w1 ⟨rfl, b1⟩
  clear T1
  by_cases h0 : p1 = 0
  · subst h0
    have ok : (Ck.prog (xs.map Rv.r)).1 = 0 := by rw [hp.out]
    obtain ⟨h16, hW, _⟩ := Ck.prog_ok ok
    rw [List.length_map] at h16
    have HW := hideP hW
    clear hW ok
    have I0 : SpR 0 w1.heap.size w (xs.map Rv.r) 0 [] (.slice none 0 0) w1 := ⟨World.ownsRow_nil _ _ _ _, ⟨Nat.zero_le _, b1.size, Nat.le_refl _⟩, (fun _ h => by cases h), Lc.WayR.start _, b1, by simp⟩
    go_wp2_with fail
    go_loopw [7, 8, 9, 21] (fun v7 _ _ v21 wr => ∃ (j : Nat) (ys : List Rv), v21 = .int .i64 (j : Int) ∧ j ≤ xs.length ∧ SpR 0 w1.heap.size w (xs.map Rv.r) j ys v7 wr) (fun _ _ _ v21 _ => xs.length - (RowKit.intOf v21).toNat)
    case atStart => exact ⟨0, [], rfl, Nat.zero_le _, I0⟩
    case round =>
      clear I0
      obtain ⟨j, ys, rfl, hj, I⟩ := hrel
      have ln := I.len
      obtain ⟨a5, c5, rfl, R5, _⟩ := own_row (D := rK) I.all (by omega)
      by_cases hlt : j < xs.length
      · have q : (j : Int) < (xs.length : Int) := by omega
        have hjr : j < (xs.map Rv.r).length := by rw [List.length_map]; exact hlt
        have hyr : (xs.map Rv.r)[j] = (xs[j]'hlt).r := List.getElem_map ..
        have SH := Ck.shown (HW.out _ (List.getElem_mem hjr)).shape
        rw [hyr] at SH
        obtain ⟨P1, O1, hP⟩ := HX.out.row.addr (Nat.lt_of_le_of_lt (Nat.zero_le _) hlt)
        have r1 : wr.rangeAt P1 (O1 + j * 11) (rv (xs[j]'hlt)) := by
          have := HX.out.row.below I.bel (Nat.le_refl _)
          rw [hP] at this
          exact this.range j hlt
        have aY := hideP (fun W (h : Below w.heap.size w W) => (HX.out.each _ (List.getElem_mem hlt)).below h (Nat.le_refl _))
        rw [hP]
        generalize (xs[j]'hlt) = y at *
        have iP : (Tryz.prog.info? 48).map (·.size) = some (rv y).length := Tryz.iR11
        go_upto_region 8 with (first
          | (refine wpList_load_mid rfl 48 _ rfl P1 (O1 + j * 11) rfl (rv y) _ r1 Tryz.underlying48 rfl iP ?_)
          | (refine wpList_store_all rfl 48 _ _ rfl wr.heap.size 11 _ 48 (rv y) rfl rfl (heap_alloc_new wr _) rfl rfl Tryz.iR11 rfl ?_; intro w2 H2 d2; have b2 := below_tok d2))
        have I2 := I.next b2
        clear I r1 R5
        have SA := SH.ok
        have SB : y.args.length ≤ 1000000 := by have := SH.head.args; have e : (Ck.hdL y.r).args = y.args := rfl; rw [e] at this; omega
        go_wp2_with (refine wpList_load_all rfl 48 _ rfl wr.heap.size 11 48 (rv y) _ rfl H2 rfl Tryz.underlying48 rfl Tryz.iR11 ?_)
        refine (split_at y j w2 (HLd.out.below I2.bel) (aY.out w2 I2.bel) SA (by omega) SB).mono ?_
        rintro e w3 ⟨a3, c3, zs, rfl, R3, A3, E3, b3⟩
        have I3 := I2.next b3
        have zl : zs.length ≤ 700 := by have := congrArg List.length E3; rw [List.length_map] at this; rw [this]; exact one_few SH j
        have hb3 := I3.mB.2.2
        go_wp2_with (at_builtin; refine wpList_append_rec rK _ rfl _ _ 22 48 rfl _ 160 Tryz.underlying22 Tryz.iRk13 rfl (by decide) w1.heap.size (.slice a5 ys.length c5) ys zs a3 zs.length c3 rfl I3.all rfl rfl R3 hb3 (by omega) ?_; intro v4 w4 O4 g4)
        exact ⟨⟨j + 1, ys ++ zs, by go_num, by omega, I3.more hjr (by rw [hyr]; exact E3) A3 zl O4 g4⟩, by simp [RowKit.intOf]; omega⟩
      · have q : ¬ (j : Int) < (xs.length : Int) := by omega
        have FIN : RwAns 0 (xs.map Rv.r) (.returned (.tuple #[.slice a5 ys.length c5, .int .i64 0])) wr := ⟨a5, c5, ys, by rw [hp.out], R5.row, I.rules, by rw [if_pos (by rw [hp.out])]; exact (I.way.done (by rw [List.length_map]; omega)).symm⟩
        have HF := hideP FIN
        have HB := I.bel
        clear FIN I R5
        go_wp2_with fail
        go_ret2
        exact ⟨HF.out, HB⟩
  · have q : (p1 != 0) = true := by simpa using h0
    have FIN : RwAns 0 (xs.map Rv.r) (.returned (.tuple #[.slice none 0 0, .int .i64 p1])) w1 := ⟨none, 0, [], by rw [hp.out]; rfl, Row.nil _ _, (fun _ h => by cases h), by rw [if_neg (by rw [hp.out]; exact h0)]; rfl⟩
    have HF := hideP FIN
    clear FIN h0
    go_wp2_with fail
    go_ret2
    exact ⟨HF.out, b1⟩
end Go.Proofs.YtpdmmmdkpipmkaaGreatDoor
