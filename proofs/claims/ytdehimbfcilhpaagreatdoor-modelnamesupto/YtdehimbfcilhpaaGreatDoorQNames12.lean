/-
  ModelNames: the walk.
-/
import Derived.Test.YtdehimbfcilhpaaGreatDoorQWc12
import Derived.Test.YtdehimbfcilhpaaGreatDoorQSame
namespace Go.Proofs.YtdehimbfcilhpaaGreatDoor
open Go.RowKit Go.Lib Go.Shelf

set_option maxRecDepth 100000 in
set_option maxHeartbeats 4000000 in
theorem modelNames_walk (ha : Option Addr) (hc : Nat) (hs : List (List UInt8)) (na : Option Addr) (nc : Nat) (ns : List (List UInt8)) (ra : Option Addr) (rc : Nat) (rs : List Rv) (fa : Option Addr) (fc : Nat) (zs : List Fv) (W : World) (hL : Laid W) (h : CsB W ha hc hs na nc ns ra rc rs fa fc zs) :
    Calls Tryz.prog 8 #[caseV ha hc hs na nc ns ra rc rs fa fc zs] W fun e w' => e = .returned (.bool true) ∧ Below W.heap.size W w' := by
  have A0 := below_alloc W (.cells #[.slice ha hs.length hc, .slice na ns.length nc, .slice ra rs.length rc, .slice fa zs.length fc] 26)
  have C0 : CsW W W.heap.size ha hc hs na nc ns ra rc rs fa fc zs (W.alloc (.cells #[.slice ha hs.length hc, .slice na ns.length nc, .slice ra rs.length rc, .slice fa zs.length fc] 26)) := ⟨heap_alloc_new W _, A0⟩
  have TLt := hideP (light12_at ha hc hs na nc ns ra rc rs fa fc zs (W.alloc (.cells #[.slice ha hs.length hc, .slice na ns.length nc, .slice ra rs.length rc, .slice fa zs.length fc] 26)) (h.rules.at_.below A0) (fun r hr => (h.rules.each r hr).tx) (h.facts.lies.below A0 (Nat.le_refl _)) (fun z hz => (h.facts.at_ z hz).below A0 (Nat.le_refl _)) (fun z hz => (h.facts.each z hz).tx))
  have TV := hideP (fun w (b : Below W.heap.size W w) => live12_at w (hL.below b))
  have H := hideP h
  have HL := hideP hL
  clear h hL
  go_enter Tryz.func8, Tryz.ntmps8
  go_wp2_with fail
  refine TLt.out.mono ?_
  rintro e w1 ⟨⟨q, rfl, hq⟩, B1⟩
  have C1 := C0.next B1
  clear TLt C0 A0 B1
  cases q with
  | false =>
    clear hq
    go_wp2_with fail
    refine (TV.out w1 C1.below).mono ?_
    rintro e w2 ⟨rfl, B2⟩
    go_wp2_with fail
    go_ret
    exact ⟨rfl, C1.below.trans (B2.mono C1.below.size)⟩
  | true =>
    have LI := hq rfl
    have HLI := hideP LI
    obtain ⟨g0, g1, g2, g3⟩ := C1.cells
    have TR := hideP (least12_at ha hc hs na nc ns ra rc rs fa fc zs w1 ⟨H.out.rules.at_.below C1.below, fun r hr => (H.out.rules.each r hr).smr (LI.rule r hr), H.out.homes.row.below C1.below (Nat.le_refl _), H.out.names.row.below C1.below (Nat.le_refl _), LI.most⟩ (H.out.facts.lies.below C1.below (Nat.le_refl _)) (fun z hz => (H.out.facts.at_ z hz).below C1.below (Nat.le_refl _)))
    clear hq LI
    go_wp2_with fail
    refine TR.out.mono ?_
    rintro e w3 ⟨⟨a, m, us, q3, rfl, L3, E3, HL3⟩, B3⟩
    have C3 := C1.next B3
    clear TR g0 g1 g2 g3
    cases q3 with
    | false =>
      clear HL3
      go_wp2_with fail
      refine (TV.out w3 C3.below).mono ?_
      rintro e w4 ⟨rfl, B4⟩
      go_wp2_with fail
      go_ret
      exact ⟨rfl, C3.below.trans (B4.mono C3.below.size)⟩
    | true =>
      have LF := hideP (HL3 rfl)
      clear HL3
      have GD := (Below.refl w3.heap.size w3).drew
      have HK : Hid (∀ X, Below w3.heap.size w3 X → (X.cell? ⟨W.heap.size, 0, none⟩ = some (.slice ha hs.length hc) ∧ X.cell? ⟨W.heap.size, 1, none⟩ = some (.slice na ns.length nc) ∧ X.cell? ⟨W.heap.size, 2, none⟩ = some (.slice ra rs.length rc) ∧ X.cell? ⟨W.heap.size, 3, none⟩ = some (.slice fa zs.length fc))) := fun X hb => (C3.next hb).cells
      have TW := hideP (fun X => world_at ha hc hs na nc ns ra rc rs fa fc zs X)
      have TM := hideP (fun X (hb : Below w3.heap.size w3 X) => mleast_at ra rc rs ha hc hs na nc ns fa fc zs (some (us.map Fv.f)) X ((H.out.lin HL.out HLI.out.rule).below (C3.next hb).below) (H.out.facts.lies.below (C3.next hb).below (Nat.le_refl _)) (fun z hz => (H.out.facts.at_ z hz).below (C3.next hb).below (Nat.le_refl _)) (fun z hz => (H.out.facts.each z hz).sm) LF.out)
      go_wp2_with fail
      go_region_held3 (fun X => X.cell? ⟨W.heap.size, 0, none⟩ = some (.slice ha hs.length hc) ∧ X.cell? ⟨W.heap.size, 1, none⟩ = some (.slice na ns.length nc) ∧ X.cell? ⟨W.heap.size, 2, none⟩ = some (.slice ra rs.length rc) ∧ X.cell? ⟨W.heap.size, 3, none⟩ = some (.slice fa zs.length fc)) (first | with_reducible exact HK.out _ GD | with_reducible exact HK.out _ G4 | with_reducible exact HK.out _ G5) (first
        | (go_at_call 16; refine (TW.out _).mono ?_; rintro e4 w4 ⟨rfl, b4⟩; have G4 := Below.then GD b4)
        | (go_at_call 19; refine (TM.out _ G4).mono ?_; rintro e5 w5 ⟨⟨ys, a5, c5, rfl, FA5, hy⟩, b5⟩; have G5 := Below.then G4 b5))
      have C5 := C3.next G5
      have HY : Hid (ys.map Fv.f = us.map Fv.f) := hy
      clear TW TM HK GD b4 b5 hy
      have er0 : errOf (some (us.map Fv.f)) = 0 := rfl
      rw [er0]
      clear er0
      have NM : Hid (∀ z ∈ ys, z.f ∈ zs.map Fv.f ∨ (z.at_ ∈ ns ∧ z.by_ ∈ hs)) := fun z hz => Ml.names LF.out.lst z.f (by rw [← HY.out]; exact List.mem_map_of_mem hz)
      have few := FA5.lies.few
      go_wp2_with fail
      go_loopw [7] (fun v7 wr => ∃ i : Nat, v7 = .int .i64 (i : Int) ∧ i ≤ ys.length ∧ Below w5.heap.size w5 wr) (fun v7 _ => ys.length - (intOf v7).toNat)
      case atStart => exact ⟨0, rfl, Nat.zero_le _, Below.refl _ _⟩
      case round =>
        obtain ⟨i, rfl, hil, Bi⟩ := hrel
        have Ci := C5.next Bi
        by_cases hlt : i < ys.length
        · have q1 : (i : Int) < (ys.length : Int) := by omega
          obtain ⟨P5, O5, rfl⟩ := FA5.lies.addr (by omega)
          have ZL : Hid (∀ X, Below w5.heap.size w5 X → (X.cell? ⟨P5, O5 + i * 4, none⟩ = some (str (ys[i]'hlt).at_) ∧ X.cell? ⟨P5, O5 + i * 4 + 1, none⟩ = some (str (ys[i]'hlt).by_) ∧ X.cell? ⟨P5, O5 + i * 4 + 2, none⟩ = some (str (ys[i]'hlt).pred) ∧ X.cell? ⟨P5, O5 + i * 4 + 3, none⟩ = some (.slice (ys[i]'hlt).a (ys[i]'hlt).ks.length (ys[i]'hlt).cap))) := fun X hb => (FA5.lies.below hb (Nat.le_refl _)).get i hlt
          have NZ := hideP (NM.out _ (List.getElem_mem hlt))
          have RZ := hideP (FA5.each _ (List.getElem_mem hlt))
          generalize (ys[i]'hlt) = z at *
          have HK : Hid (∀ X, Below wr.heap.size wr X → (X.cell? ⟨W.heap.size, 3, none⟩ = some (.slice fa zs.length fc) ∧ X.cell? ⟨P5, O5 + i * 4, none⟩ = some (str z.at_) ∧ X.cell? ⟨P5, O5 + i * 4 + 1, none⟩ = some (str z.by_) ∧ X.cell? ⟨P5, O5 + i * 4 + 2, none⟩ = some (str z.pred) ∧ X.cell? ⟨P5, O5 + i * 4 + 3, none⟩ = some (.slice z.a z.ks.length z.cap))) := fun X hb => ⟨(Ci.next hb).cells.2.2.2, ZL.out X (Below.then Bi hb)⟩
          have GD := (Below.refl wr.heap.size wr).drew
          have TH := hideP (fun X (hb : Below wr.heap.size wr X) => has_at fa fc zs z X (H.out.facts.lies.below (Ci.next hb).below (Nat.le_refl _)) (fun y hy => (H.out.facts.at_ y hy).below (Ci.next hb).below (Nat.le_refl _)) (row_args (RZ.out.safe (Safe.below (Below.then Bi hb))).row))
          go_wp2_with fail
          go_region_held3 (fun X => X.cell? ⟨W.heap.size, 3, none⟩ = some (.slice fa zs.length fc) ∧ X.cell? ⟨P5, O5 + i * 4, none⟩ = some (str z.at_) ∧ X.cell? ⟨P5, O5 + i * 4 + 1, none⟩ = some (str z.by_) ∧ X.cell? ⟨P5, O5 + i * 4 + 2, none⟩ = some (str z.pred) ∧ X.cell? ⟨P5, O5 + i * 4 + 3, none⟩ = some (.slice z.a z.ks.length z.cap)) (first | with_reducible exact HK.out _ GD | with_reducible exact HK.out _ G6) (first
            | (go_at_call 25; refine (TH.out _ GD).mono ?_; rintro e6 w6 ⟨rfl, b6⟩; have G6 := Below.then GD b6))
          have T6 := Below.then Bi G6
          clear TH HK GD b6
          cases hh : hasF (zs.map Fv.f) z.f with
          | true =>
            clear hh
            go_wp2_with fail
            exact ⟨⟨i + 1, by go_num, by omega, T6⟩, by simp [intOf]; omega⟩
          | false =>
            have NZ2 : Hid (z.at_ ∈ ns ∧ z.by_ ∈ hs) := by
              rcases NZ.out with hz | hz
              · rw [(hasF_iff _ _).2 hz] at hh; cases hh
              · exact hz
            clear hh NZ
            have fewn := H.out.names.row.few
            have fewh := H.out.homes.row.few
            have C6 := C5.next T6
            have n1 := C6.cells.2.1
            clear n1
            go_wp2_with fail
            go_loopw [8, 9] (fun vb vk wi => ∃ (k : Nat) (b : Bool), vb = .bool b ∧ vk = .int .i64 (k : Int) ∧ k ≤ ns.length ∧ Hid (b = decide (z.at_ ∈ ns.take k)) ∧ Below w6.heap.size w6 wi) (fun _ vk _ => ns.length - (intOf vk).toNat)
            case atStart => exact ⟨0, false, rfl, rfl, Nat.zero_le _, hideP (by simp), Below.refl _ _⟩
            case round =>
              obtain ⟨k, b, rfl, rfl, hk, hb, Bk⟩ := hrel
              have Ck := C6.next Bk
              have n1 := Ck.cells.2.1
              by_cases hkt : k < ns.length
              · have q2 : (k : Int) < (ns.length : Int) := by omega
                obtain ⟨P7, O7, rfl⟩ := H.out.names.row.addr (by omega)
                have t1 := ((H.out.names.row).below Ck.below (Nat.le_refl _)).text k hkt
                obtain ⟨z0, z1, z2, z3⟩ := ZL.out wr (Below.then T6 Bk)
                cases b with
                | true =>
                  have HB : Hid (true = decide (z.at_ ∈ ns.take (k + 1))) := by
                    show _ = _
                    have h1 : z.at_ ∈ ns.take k := by simpa using hb.out.symm
                    rw [eq_comm, decide_eq_true_iff]
                    exact (List.take_subset_take_left ns (Nat.le_succ k)) h1
                  clear hb
                  generalize (ns[k]'hkt) = nk at *
                  go_wp2_with fail
                  go_quiet (fail)
                  go_wp2_with fail
                  exact ⟨⟨k + 1, true, rfl, by go_num, by omega, HB, Below.then Bk (Grew.drewN wr nq).below⟩, by simp [intOf]; omega⟩
                | false =>
                  have hno : z.at_ ∉ ns.take k := by simpa using hb.out.symm
                  by_cases hq : (ns[k]'hkt) = z.at_
                  · have HB : Hid (true = decide (z.at_ ∈ ns.take (k + 1))) := by
                      show _ = _
                      rw [eq_comm, decide_eq_true_iff, ← List.take_append_getElem hkt, hq]; simp
                    have q3 : ((ns[k]'hkt) == z.at_) = true := by simpa using hq
                    clear hb hno hq
                    generalize (ns[k]'hkt) = nk at *
                    go_wp2_with fail
                    go_quiet (fail)
                    go_wp2_with fail
                    exact ⟨⟨k + 1, true, rfl, by go_num, by omega, HB, Below.then Bk (Grew.drewN wr nq).below⟩, by simp [intOf]; omega⟩
                  · have HB : Hid (false = decide (z.at_ ∈ ns.take (k + 1))) := by
                      show _ = _
                      rw [eq_comm, decide_eq_false_iff_not, ← List.take_append_getElem hkt]
                      simp only [List.mem_append, List.mem_singleton, not_or]
                      exact ⟨hno, fun e => hq e.symm⟩
                    have q3 : ((ns[k]'hkt) == z.at_) = false := by simpa using hq
                    clear hb hno hq
                    generalize (ns[k]'hkt) = nk at *
                    go_wp2_with fail
                    go_quiet (fail)
                    go_wp2_with fail
                    exact ⟨⟨k + 1, false, rfl, by go_num, by omega, HB, Below.then Bk (Grew.drewN wr nq).below⟩, by simp [intOf]; omega⟩
              · have q2 : ¬ (k : Int) < (ns.length : Int) := by omega
                have hbt : b = true := by rw [hb.out, List.take_of_length_le (by omega)]; exact decide_eq_true NZ2.out.1
                subst hbt
                have C7 := Ck
                have B7 := Bk
                generalize wr = w7 at *
                clear Bk Ck hb
                go_wp2_with fail
                go_loopw [10, 11] (fun vb vk wi => ∃ (k : Nat) (b : Bool), vb = .bool b ∧ vk = .int .i64 (k : Int) ∧ k ≤ hs.length ∧ Hid (b = decide (z.by_ ∈ hs.take k)) ∧ Below w7.heap.size w7 wi) (fun _ vk _ => hs.length - (intOf vk).toNat)
                case atStart => exact ⟨0, false, rfl, rfl, Nat.zero_le _, hideP (by simp), Below.refl _ _⟩
                case round =>
                  obtain ⟨k, b, rfl, rfl, hk, hb, Bk⟩ := hrel
                  have Ck := C7.next Bk
                  have n1 := Ck.cells.1
                  by_cases hkt : k < hs.length
                  · have q2 : (k : Int) < (hs.length : Int) := by omega
                    obtain ⟨P7, O7, rfl⟩ := H.out.homes.row.addr (by omega)
                    have t1 := ((H.out.homes.row).below Ck.below (Nat.le_refl _)).text k hkt
                    obtain ⟨z0, z1, z2, z3⟩ := ZL.out wr (Below.then (Below.then T6 B7) Bk)
                    cases b with
                    | true =>
                      have HB : Hid (true = decide (z.by_ ∈ hs.take (k + 1))) := by
                        show _ = _
                        have h1 : z.by_ ∈ hs.take k := by simpa using hb.out.symm
                        rw [eq_comm, decide_eq_true_iff]
                        exact (List.take_subset_take_left hs (Nat.le_succ k)) h1
                      clear hb
                      generalize (hs[k]'hkt) = nk at *
                      go_wp2_with fail
                      go_quiet (fail)
                      go_wp2_with fail
                      exact ⟨⟨k + 1, true, rfl, by go_num, by omega, HB, Below.then Bk (Grew.drewN wr nq).below⟩, by simp [intOf]; omega⟩
                    | false =>
                      have hno : z.by_ ∉ hs.take k := by simpa using hb.out.symm
                      by_cases hq : (hs[k]'hkt) = z.by_
                      · have HB : Hid (true = decide (z.by_ ∈ hs.take (k + 1))) := by
                          show _ = _
                          rw [eq_comm, decide_eq_true_iff, ← List.take_append_getElem hkt, hq]; simp
                        have q3 : ((hs[k]'hkt) == z.by_) = true := by simpa using hq
                        clear hb hno hq
                        generalize (hs[k]'hkt) = nk at *
                        go_wp2_with fail
                        go_quiet (fail)
                        go_wp2_with fail
                        exact ⟨⟨k + 1, true, rfl, by go_num, by omega, HB, Below.then Bk (Grew.drewN wr nq).below⟩, by simp [intOf]; omega⟩
                      · have HB : Hid (false = decide (z.by_ ∈ hs.take (k + 1))) := by
                          show _ = _
                          rw [eq_comm, decide_eq_false_iff_not, ← List.take_append_getElem hkt]
                          simp only [List.mem_append, List.mem_singleton, not_or]
                          exact ⟨hno, fun e => hq e.symm⟩
                        have q3 : ((hs[k]'hkt) == z.by_) = false := by simpa using hq
                        clear hb hno hq
                        generalize (hs[k]'hkt) = nk at *
                        go_wp2_with fail
                        go_quiet (fail)
                        go_wp2_with fail
                        exact ⟨⟨k + 1, false, rfl, by go_num, by omega, HB, Below.then Bk (Grew.drewN wr nq).below⟩, by simp [intOf]; omega⟩
                  · have q2 : ¬ (k : Int) < (hs.length : Int) := by omega
                    have hbt : b = true := by rw [hb.out, List.take_of_length_le (by omega)]; exact decide_eq_true NZ2.out.2
                    subst hbt
                    go_wp2_with fail
                    exact ⟨⟨i + 1, by go_num, by omega, Below.then (Below.then T6 B7) Bk⟩, by simp [intOf]; omega⟩
        · have q1 : ¬ (i : Int) < (ys.length : Int) := by omega
          go_wp2_with fail
          refine (TV.out wr Ci.below).mono ?_
          rintro e w8 ⟨rfl, B8⟩
          go_wp2_with fail
          go_ret
          exact ⟨rfl, Ci.below.trans (B8.mono Ci.below.size)⟩
end Go.Proofs.YtdehimbfcilhpaaGreatDoor
