/-
  The walk of RingFull: a book takes as many as the limit says, and refuses more; what it has is signed all the same.
-/
import Derived.Test.YtfpdiafedoppnaaDoorRq
namespace Go.Proofs.YtfpdiafedoppnaaDoor
open Go.RowKit

/-- the i-th text -/
def tx (i : Nat) : List UInt8 := [UInt8.ofNat i, UInt8.ofNat (i / 256), UInt8.ofNat (i / 65536)]
theorem tx_inj {i j : Nat} (hi : i < 65536) (hj : j < 65536) (h : tx i = tx j) : i = j := by
  unfold tx at h
  simp only [List.cons.injEq, and_true] at h
  have h0 := congrArg UInt8.toNat h.1
  have h1 := congrArg UInt8.toNat h.2.1
  simp only [UInt8.toNat_ofNat'] at h0 h1
  omega
def bookTo (i : Nat) : List P3 := (List.range i).map fun j => ([97], [120], tx j)
theorem bookTo_len (i : Nat) : (bookTo i).length = i := by simp [bookTo]
theorem bookTo_succ (i : Nat) : bookTo (i + 1) = bookTo i ++ [([97], [120], tx i)] := by simp [bookTo, List.range_succ]
theorem bookTo_not {i m : Nat} (h : m ≤ i) (hi : i < 65536) : (([97], [120], tx i) : P3) ∉ bookTo m := fun hm => by
  obtain ⟨j, hj, he⟩ := List.mem_map.1 hm
  rw [List.mem_range] at hj
  have := tx_inj (by omega) hi (congrArg (fun p : P3 => p.2.2) he)
  omega
theorem full_e (i : Nat) (h : i < 65536) : sgE [[97]] (bookTo (min i 4096)) [97] [120] (tx i) = if i < 4096 then 0 else 150 := by
  unfold sgE
  rw [if_pos (by simp), if_neg (by simp [tx]), if_neg (bookTo_not (by omega) h), bookTo_len]
  by_cases h1 : i < 4096
  · rw [if_pos h1, if_neg (by omega)]
  · rw [if_neg h1, if_pos (by omega)]
theorem full_l (i : Nat) (h : i < 65536) : sgL [[97]] (bookTo (min i 4096)) [97] [120] (tx i) = bookTo (min (i + 1) 4096) := by
  unfold sgL
  rw [full_e i h]
  by_cases h1 : i < 4096
  · rw [if_pos h1, if_pos ⟨rfl, bookTo_not (by omega) h⟩, show min i 4096 = i by omega, show min (i + 1) 4096 = i + 1 by omega, bookTo_succ]
  · rw [if_neg h1, if_neg (by simp), show min i 4096 = 4096 by omega, show min (i + 1) 4096 = 4096 by omega]
theorem tx_cells (i : Nat) (h : i < 65536) : (#[.int .u8 ((i : Int) % 256), .int .u8 ((i : Int) / 256), .int .u8 ((i : Int) / 65536)] : Array Value).toList = cs (tx i) := by
  have h1 : i / 256 < 256 := by omega
  have h2 : i / 65536 = 0 := by omega
  simp [tx, cs, h2, Nat.mod_eq_of_lt h1]
  omega
theorem tx_length (i : Nat) : (tx i).length = 3 := rfl

set_option maxRecDepth 100000 in
set_option maxHeartbeats 3200000 in
theorem ringFull_walk (w : World) (hL : Laid w) :
    Calls Tryd.prog 7 #[] w fun e w' => e = .returned (.bool true) ∧ Below w.heap.size w w' := by
  go_enter Tryd.func7, Tryd.ntmps7
  go_wp2_with fail
  have B1 := below_alloc w (.cells #[str [97]] 9)
  have h1 := rows_new sK w #[str [97]] 9 [[97]] rfl (by decide)
  refine (new6_ok _ (some ⟨w.heap.size, 0, none⟩) 1 1 [[97]] h1 (hL.below B1) (by decide) may_a (by decide) (by decide)).mono ?_
  rintro _ w2 ⟨rb, rfl, ⟨g, cap, bm, r2, f2⟩, b2⟩
  have B2 := Below.then B1 b2
  have F2 : w.heap.size ≤ bm := Nat.le_trans B1.size f2
  clear B1 b2 f2 h1
  go_wp2_with fail
  go_loopw [3] (fun v wr => ∃ k : Nat, v = .int .i64 (k : Int) ∧ k ≤ 4098 ∧ RingAt wr rb g cap bm 1 [[97]] (bookTo (min k 4096)) ∧ Below w.heap.size w wr) (fun v _ => 4098 - (intOf v).toNat)
  case atStart => exact ⟨0, rfl, by omega, r2, B2⟩
  case round =>
    obtain ⟨k, rfl, hk, hr, hbel⟩ := hrel
    clear B2 r2
    by_cases hlt : k < 4098
    · have q0 : (k : Int) < 4098 := by omega
      go_wp2_with fail
      have B3 := Below.then hbel (below_alloc wr (.cells #[.int .u8 ((k : Int) % 256), .int .u8 ((k : Int) / 256), .int .u8 ((k : Int) / 65536)] 5))
      have r3 := hr.below (below_alloc wr (.cells #[.int .u8 ((k : Int) % 256), .int .u8 ((k : Int) / 256), .int .u8 ((k : Int) / 65536)] 5))
      have h3 := holds_new wr (tx k) _ 5 (tx_cells k (by omega))
      generalize wr.alloc (.cells #[.int .u8 ((k : Int) % 256), .int .u8 ((k : Int) / 256), .int .u8 ((k : Int) / 65536)] 5) = w3 at B3 r3 h3 ⊢
      refine (sign6 w3 rb g cap bm 1 [[97]] (bookTo (min k 4096)) [97] [120] (tx k) (some ⟨wr.heap.size, 0, none⟩) 3 r3 (hL.below B3) h3 ⟨by unfold maxLen; simp, by unfold maxLen; simp, by unfold maxLen; simp [tx]⟩ (by decide) (by rw [tx_length]; decide)).mono ?_
      rintro _ w4 ⟨rfl, r4, x4⟩
      have B4 := But.under B3 x4 F2
      rw [full_l k (by omega)] at r4
      rw [full_e k (by omega)]
      have lD := sgT_length 1 [[97]] (bookTo (min k 4096)) [97] [120] (tx k)
      generalize sgT 1 [[97]] (bookTo (min k 4096)) [97] [120] (tx k) = D at *
      have iD : Hid ((Tryd.prog.info? 42).map (·.size) = some (cs D).length) := hideP (by rw [cs_length, lD]; exact Tryd.infoDigest)
      have oD := cs_one D
      have zD : Hid (32 = (cs D).length) := hideP (by rw [cs_length, lD])
      have B5 := Below.then B4 (below_alloc w4 (.cells (cs D).toArray 42))
      have r5 := r4.below (below_alloc w4 (.cells (cs D).toArray 42))
      clear r4 x4 B4 h3 r3 B3 hr hbel
      by_cases h4 : k < 4096
      · have q1 : (k : Int) < 4096 := by omega
        rw [if_pos h4]
        clear h4
        go_wp2_with (refine wpList_store_new rfl 42 _ _ rfl w4.heap.size rfl (cs D) rfl rfl zD.out iD.out oD ?_)
        exact ⟨⟨k + 1, rfl, hlt, r5, B5⟩, by simp [intOf]; omega⟩
      · have q1 : ¬ (k : Int) < 4096 := by omega
        rw [if_neg h4]
        clear h4
        go_wp2_with (refine wpList_store_new rfl 42 _ _ rfl w4.heap.size rfl (cs D) rfl rfl zD.out iD.out oD ?_)
        exact ⟨⟨k + 1, rfl, hlt, r5, B5⟩, by simp [intOf]; omega⟩
    · have q0 : ¬ (k : Int) < 4098 := by omega
      obtain rfl : k = 4098 := by omega
      rw [show min 4098 4096 = 4096 from rfl] at hr
      clear hlt hk
      go_wp2_with fail
      have B3 := Below.then hbel (below_alloc wr (.cells #[.int .u8 0, .int .u8 0, .int .u8 0] 5))
      have r3 := hr.below (below_alloc wr (.cells #[.int .u8 0, .int .u8 0, .int .u8 0] 5))
      have h3 := holds_new wr (tx 0) #[.int .u8 0, .int .u8 0, .int .u8 0] 5 rfl
      generalize wr.alloc (.cells #[.int .u8 0, .int .u8 0, .int .u8 0] 5) = w3 at B3 r3 h3 ⊢
      have hin : (([97], [120], tx 0) : P3) ∈ bookTo 4096 := List.mem_map.2 ⟨0, by simp, rfl⟩
      have e1 : sgE [[97]] (bookTo 4096) [97] [120] (tx 0) = 0 := by
        unfold sgE; rw [if_pos (by simp), if_neg (by simp [tx]), if_pos hin]
      have e2 : sgL [[97]] (bookTo 4096) [97] [120] (tx 0) = bookTo 4096 := if_neg fun h => h.2 hin
      have e3 : sgE [[97]] (bookTo 4096) [97] [121] [] = 150 := by
        unfold sgE
        rw [if_pos (by simp), if_neg (by simp), if_neg (fun hm => by
          obtain ⟨j, _, he⟩ := List.mem_map.1 hm
          have := congrArg (fun p : P3 => p.2.1) he
          simp at this), if_pos (by rw [bookTo_len]; exact Nat.le_refl _)]
      have e4 : sgL [[97]] (bookTo 4096) [97] [121] [] = bookTo 4096 := if_neg fun h => by rw [e3] at h; simp at h
      have E2 := hideP e2; have E3 := hideP e3; have E4 := hideP e4
      refine (sign6 w3 rb g cap bm 1 [[97]] (bookTo 4096) [97] [120] (tx 0) (some ⟨wr.heap.size, 0, none⟩) 3 r3 (hL.below B3) h3 ⟨by decide, by decide, by decide⟩ (by decide) (by decide)).mono ?_
      rintro _ w4 ⟨rfl, r4, x4⟩
      have B4 := But.under B3 x4 F2
      rw [E2.out] at r4
      rw [e1]
      clear e1 e2 e3 e4 hin
      have lD := sgT_length 1 [[97]] (bookTo 4096) [97] [120] (tx 0)
      generalize sgT 1 [[97]] (bookTo 4096) [97] [120] (tx 0) = D at *
      have iD : Hid ((Tryd.prog.info? 42).map (·.size) = some (cs D).length) := hideP (by rw [cs_length, lD]; exact Tryd.infoDigest)
      have oD := cs_one D
      have zD : Hid (32 = (cs D).length) := hideP (by rw [cs_length, lD])
      have B5 := Below.then B4 (below_alloc w4 (.cells (cs D).toArray 42))
      have r5 := r4.below (below_alloc w4 (.cells (cs D).toArray 42))
      clear r4 x4 B4 h3 r3 B3 hr hbel
      go_wp2_with (refine wpList_store_new rfl 42 _ _ rfl w4.heap.size rfl (cs D) rfl rfl zD.out iD.out oD ?_)
      generalize w4.alloc (.cells (cs D).toArray 42) = w5 at B5 r5 ⊢
      refine (sign6 w5 rb g cap bm 1 [[97]] (bookTo 4096) [97] [121] [] none 0 r5 (hL.below B5) (Holds.nil _) ⟨by decide, by decide, by decide⟩ (by decide) (by decide)).mono ?_
      rintro _ w6 ⟨rfl, r6, x6⟩
      have B6 := But.under B5 x6 F2
      rw [E4.out] at r6
      rw [E3.out]
      clear lD
      have lD2 := sgT_length 1 [[97]] (bookTo 4096) [97] [121] []
      generalize sgT 1 [[97]] (bookTo 4096) [97] [121] [] = D2 at *
      have iD2 : Hid ((Tryd.prog.info? 42).map (·.size) = some (cs D2).length) := hideP (by rw [cs_length, lD2]; exact Tryd.infoDigest)
      have oD2 := cs_one D2
      have zD2 : Hid (32 = (cs D2).length) := hideP (by rw [cs_length, lD2])
      have B7 := Below.then B6 (below_alloc w6 (.cells (cs D2).toArray 42))
      have r7 := r6.below (below_alloc w6 (.cells (cs D2).toArray 42))
      clear r6 x6 B6 r5 B5
      go_wp2_with (refine wpList_store_new rfl 42 _ _ rfl w6.heap.size rfl (cs D2) rfl rfl zD2.out iD2.out oD2 ?_)
      generalize w6.alloc (.cells (cs D2).toArray 42) = w7 at B7 r7 ⊢
      refine (len6 w7 rb g cap bm 1 [[97]] _ r7).mono ?_
      rintro _ w8 ⟨rfl, rfl⟩
      rw [bookTo_len]
      go_wp2_with fail
      refine (live6 w7 (hL.below B7)).mono ?_
      rintro _ w9 ⟨rfl, b9⟩
      go_wp2_with fail
      go_ret
      exact ⟨rfl, Below.then B7 b9⟩
end Go.Proofs.YtfpdiafedoppnaaDoor
