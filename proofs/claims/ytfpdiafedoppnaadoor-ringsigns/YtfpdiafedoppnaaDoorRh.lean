/-
  A principal's key, as the ring finds it; whether somebody is a principal.
-/
import Derived.Test.YtfpdiafedoppnaaDoorRg
import Derived.Test.YtfpdiafedoppnaaDoorHSum
import Derived.Test.YtfpdiafedoppnaaDoorMText
namespace Go.Proofs.YtfpdiafedoppnaaDoor
open Go.RowKit

theorem Tryd.infoPrincipal : (Tryd.prog.info? 63).map (·.size) = some 33 := by kernel_rfl
/-- the key that is found, or zeros -/
def foundKey (seed : Int) (N : List (List UInt8)) (who : List UInt8) : List UInt8 := if who ∈ N then Mm.pkey seed who else Sm.zeros 32
theorem foundKey_length (seed : Int) (N : List (List UInt8)) (who : List UInt8) : (foundKey seed N who).length = 32 := by
  unfold foundKey; split
  · exact Mm.pkey_length _ _
  · exact Sm.zeros_length _
theorem beq_str (a b : List UInt8) : ((⟨a.toArray⟩ : ByteArray).toList == (⟨b.toArray⟩ : ByteArray).toList) = (a == b) := by rw [ByteArray.toList_eq, ByteArray.toList_eq]
theorem there_cells {w : World} {b o n : Nat} {V : List Value} (h : w.there b o n) (hn : V.length = n) : w.there b o V.length := hn ▸ h

set_option maxRecDepth 100000 in
set_option maxHeartbeats 1600000 in
theorem key6 (w : World) (rb g cap bm : Nat) (seed : Int) (N : List (List UInt8)) (L : List P3) (who : List UInt8) (r : RingAt w rb g cap bm seed N L) :
    Calls Tryd.prog 28 #[.pointer (some ⟨rb, 0, none⟩), str who] w fun e w' => e = .returned (.tuple #[ba (foundKey seed N who), .bool (decide (who ∈ N))]) ∧ Below w.heap.size w w' := by
  have lF := foundKey_length seed N who
  have iF : (Tryd.prog.info? 42).map (·.size) = some (cs (foundKey seed N who)).length := by rw [cs_length, lF]; exact Tryd.infoDigest
  have oF := cs_one (foundKey seed N who)
  have few := r.few
  go_enter Tryd.func28, Tryd.ntmps28
  go_wp2_with fail
  have B0 := below_alloc w (.cells (cs (Sm.zeros 32)).toArray 42)
  have t0 := there_new w (cs (Sm.zeros 32)).toArray 42 32 rfl
  change Calls _ _ _ (w.alloc (.cells (cs (Sm.zeros 32)).toArray 42)) _
  generalize w.alloc (.cells (cs (Sm.zeros 32)).toArray 42) = w0 at B0 t0 ⊢
  have r0 := r.below B0
  refine (fromNew6 w0 rb bm r0.c1).mono ?_
  rintro _ w1 ⟨rfl, rfl⟩
  have c0 := r0.c0
  go_wp2_with fail
  go_loopw [17] (fun v wr => ∃ k : Nat, v = .int .i64 (k : Int) ∧ k ≤ N.length ∧ Hid (who ∉ N.take k) ∧ Below w.heap.size w wr ∧ wr.there w.heap.size 0 32) (fun v _ => N.length - (intOf v).toNat)
  case atStart => exact ⟨0, rfl, by omega, hideP (by simp), B0, t0⟩
  case round =>
    obtain ⟨k, rfl, hk, hno, hbel, ht⟩ := hrel
    clear c0 r0 t0 B0
    by_cases hlt : k < N.length
    · have q0 : (k : Int) < (N.length : Int) := by omega
      have rr := (r.below hbel).row.row.range k hlt
      rw [Nat.zero_add] at rr
      have iP : Hid ((Tryd.prog.info? 63).map (·.size) = some (str N[k] :: cs (Mm.pkey seed N[k])).length) := hideP (by rw [List.length_cons, cs_length, Mm.pkey_length]; exact Tryd.infoPrincipal)
      have oP : ∀ u ∈ (str N[k] :: cs (Mm.pkey seed N[k])), u.oneCell' = true := List.all_eq_true.1 ((pK seed).one N[k])
      have zP : Hid (33 = (str N[k] :: cs (Mm.pkey seed N[k])).length) := hideP (by rw [List.length_cons, cs_length, Mm.pkey_length])
      have lK := Mm.pkey_length seed N[k]
      have Hn := hideP (rfl : N[k] = N[k])
      have HF : Hid (N[k] = who → foundKey seed N who = Mm.pkey seed N[k]) := hideP fun e => by
        have hm : who ∈ N := e ▸ List.getElem_mem hlt
        unfold foundKey; rw [if_pos hm, e]
      have HN : Hid (N[k] ≠ who → who ∉ N.take (k + 1)) := hideP fun e => by
        rw [← List.take_append_getElem hlt]
        simp only [List.mem_append, List.mem_singleton, not_or]
        exact ⟨hno.out, fun h => e h.symm⟩
      have HM : Hid (N[k] = who → who ∈ N) := hideP fun e => e ▸ List.getElem_mem hlt
      clear Hn
      change wr.rangeAt g (k * 33) (str N[k] :: cs (Mm.pkey seed N[k])) at rr
      generalize N[k] = n at *
      generalize Mm.pkey seed n = K at *
      have bA := below_alloc wr (.cells (str n :: cs K).toArray 63)
      have rA := rangeAt_new wr (str n :: cs K).toArray 63 (str n :: cs K) (by simp)
      have tA := there_below ht bA
      have rA1 : (wr.alloc (.cells (str n :: cs K).toArray 63)).rangeAt wr.heap.size 1 (cs K) := fun j v hv => by
        have := rA (j + 1) v (by simpa using hv)
        rwa [Nat.zero_add, Nat.add_comm] at this
      have BA := Below.then hbel bA
      have iK : Hid ((Tryd.prog.info? 42).map (·.size) = some (cs K).length) := hideP (by rw [cs_length, lK]; exact Tryd.infoDigest)
      have tK : Hid ((wr.alloc (.cells (str n :: cs K).toArray 63)).there w.heap.size 0 (cs K).length) := hideP (by rw [cs_length, lK]; exact tA)
      have oK := cs_one K
      clear rA
      by_cases hq : n = who
      · have q1 : (n == who) = true := by simpa using hq
        have P6 := below_cells (Nat.le_refl _) (cs K) 0 _ BA
        have R6 := World.rangeAt_setCells_same _ w.heap.size 0 (cs K) tK.out
        have HF' := hideP (HF.out hq)
        have HM' := hideP (HM.out hq)
        clear hq HF HM HN lK
        go_wp2_with (first
          | (refine wpList_load_mid rfl 63 _ rfl g (k * 33) rfl (str n :: cs K) _ rr Tryd.underlying63 rfl iP.out ?_)
          | (refine wpList_store_new rfl 63 _ _ rfl wr.heap.size rfl (str n :: cs K) rfl rfl zP.out iP.out oP ?_)
          | (refine wpList_load_mid rfl 42 _ rfl wr.heap.size 1 rfl (cs K) _ rA1 Tryd.underlying42 rfl iK.out ?_)
          | (refine wpList_store_ex rfl 42 _ _ rfl w.heap.size 0 (cs K) rfl rfl tK.out iK.out oK ?_; intro w6 hw6; rw [hw6] at P6 R6; clear hw6))
        exact bodyPost_ret (results_cs (v := .bool true) (b := w.heap.size) (o := 0) (cs := cs K) rfl rfl rfl R6 Tryd.underlying42 rfl iK.out) rfl ⟨by rw [HF'.out, decide_eq_true HM'.out], P6⟩
      · have q1 : (n == who) = false := by simpa using hq
        have HN' := hideP (HN.out hq)
        clear hq HF HM HN lK rA1 iK oK tK
        go_wp2_with (first
          | (refine wpList_load_mid rfl 63 _ rfl g (k * 33) rfl (str n :: cs K) _ rr Tryd.underlying63 rfl iP.out ?_)
          | (refine wpList_store_new rfl 63 _ _ rfl wr.heap.size rfl (str n :: cs K) rfl rfl zP.out iP.out oP ?_))
        exact ⟨⟨k + 1, rfl, hlt, HN', BA, tA⟩, by simp [intOf]; omega⟩
    · have q0 : ¬ (k : Int) < (N.length : Int) := by omega
      obtain rfl : k = N.length := by omega
      have hno' := hno.out
      rw [List.take_length] at hno'
      have hf : foundKey seed N who = Sm.zeros 32 := if_neg hno'
      have hd : decide (who ∈ N) = false := by simpa using hno'
      rw [hf] at iF oF lF
      have HF := hideP hf
      have HD := hideP hd
      clear hno hno' hf hd lF
      have tZ : Hid (wr.there w.heap.size 0 (cs (Sm.zeros 32)).length) := hideP (by rw [cs_length, Sm.zeros_length]; exact ht)
      have P6 := below_cells (Nat.le_refl _) (cs (Sm.zeros 32)) 0 _ hbel
      have R6 := World.rangeAt_setCells_same _ w.heap.size 0 (cs (Sm.zeros 32)) tZ.out
      go_wp2_with (refine wpList_store_ex rfl 42 _ _ rfl w.heap.size 0 (cs (Sm.zeros 32)) rfl rfl tZ.out iF oF ?_; intro w6 hw6; rw [hw6] at P6 R6; clear hw6)
      exact bodyPost_ret (results_cs (v := .bool false) (b := w.heap.size) (o := 0) (cs := cs (Sm.zeros 32)) rfl rfl rfl R6 Tryd.underlying42 rfl iF) rfl ⟨by rw [HF.out, HD.out], P6⟩

set_option maxRecDepth 100000 in
set_option maxHeartbeats 1600000 in
theorem is6 (w : World) (rb g cap bm : Nat) (seed : Int) (N : List (List UInt8)) (L : List P3) (who : List UInt8) (r : RingAt w rb g cap bm seed N L) :
    Calls Tryd.prog 14 #[.pointer (some ⟨rb, 0, none⟩), str who] w fun e w' => e = .returned (.bool (decide (who ∈ N))) ∧ Below w.heap.size w w' := by
  have lF := foundKey_length seed N who
  have iF : Hid ((Tryd.prog.info? 42).map (·.size) = some (cs (foundKey seed N who)).length) := hideP (by rw [cs_length, lF]; exact Tryd.infoDigest)
  have oF := cs_one (foundKey seed N who)
  have zF : Hid (32 = (cs (foundKey seed N who)).length) := hideP (by rw [cs_length, lF])
  go_enter Tryd.func14, Tryd.ntmps14
  go_wp2_with fail
  refine (key6 w rb g cap bm seed N L who r).mono ?_
  rintro _ w1 ⟨rfl, b1⟩
  have B2 := Below.then b1 (below_alloc w1 (.cells (cs (foundKey seed N who)).toArray 42))
  generalize foundKey seed N who = F at *
  go_wp2_with (refine wpList_store_new rfl 42 _ _ rfl w1.heap.size rfl (cs F) rfl rfl zF.out iF.out oF ?_)
  go_ret
  exact ⟨rfl, B2⟩
end Go.Proofs.YtfpdiafedoppnaaDoor
