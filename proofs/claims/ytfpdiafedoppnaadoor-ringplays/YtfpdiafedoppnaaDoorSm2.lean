/-
  The end of a text, its blocks, the sum: by plain mathematics; and that the sum reckoned piece by piece is the padded text's.
-/
import Derived.Test.YtfpdiafedoppnaaDoorSm
namespace Go.Proofs.YtfpdiafedoppnaaDoor.Sm

/-- byte k of the length in bits, the lowest first -/
def lenByte (n k : Nat) : UInt8 := UInt8.ofNat (n * 8 % 18446744073709551616 / 2 ^ (8 * k))
def len8 (n : Nat) : List UInt8 := [lenByte n 7, lenByte n 6, lenByte n 5, lenByte n 4, lenByte n 3, lenByte n 2, lenByte n 1, lenByte n 0]
def zeros (n : Nat) : List UInt8 := List.replicate n 0
/-- the last k bytes of the length laid into the end of a block -/
def lenInto0 (b : List UInt8) (n : Nat) : Nat → List UInt8
  | 0 => b
  | k + 1 => (lenInto0 b n k).set (63 - k) (lenByte n k)
def lenInto (b : List UInt8) (n k : Nat) : List UInt8 := wall (fun p : List UInt8 × Nat × Nat => lenInto0 p.1 p.2.1 p.2.2) 0 (b, n, k)
theorem lenInto_def (b : List UInt8) (n k : Nat) : lenInto b n k = lenInto0 b n k := wall_eq _ _
def finish0 (s : List Wd) (b : List UInt8) (n : Nat) : List Wd :=
  if 56 ≤ n % 64 then after (after s (b.set (n % 64) 128)) (lenInto (zeros 64) n 8) else after s (lenInto (b.set (n % 64) 128) n 8)
def finish (s : List Wd) (b : List UInt8) (n : Nat) : List Wd := wall (fun p : List Wd × List UInt8 × Nat => finish0 p.1 p.2.1 p.2.2) 0 (s, b, n)
theorem finish_def (s : List Wd) (b : List UInt8) (n : Nat) : finish s b n = if 56 ≤ n % 64 then after (after s (b.set (n % 64) 128)) (lenInto (zeros 64) n 8) else after s (lenInto (b.set (n % 64) 128) n 8) := wall_eq _ _

theorem lenInto_zero (b : List UInt8) (n : Nat) : lenInto b n 0 = b := lenInto_def _ _ _
theorem lenInto_succ (b : List UInt8) (n k : Nat) : lenInto b n (k + 1) = (lenInto b n k).set (63 - k) (lenByte n k) := by rw [lenInto_def, lenInto_def]; rfl
theorem lenByte_spell (n k : Nat) (h : n ≤ 140737488352000) : ((lenByte n k).toNat : Int) = (n : Int) * 8 / 2 ^ (8 * k) % 256 := by
  have e : n * 8 % 18446744073709551616 = n * 8 := Nat.mod_eq_of_lt (by omega)
  rw [lenByte, e, UInt8.toNat_ofNat']
  simp
theorem lenInto_length (b : List UInt8) (n : Nat) : ∀ k, (lenInto b n k).length = b.length
  | 0 => by rw [lenInto_zero]
  | k + 1 => by rw [lenInto_succ, List.length_set, lenInto_length b n k]
theorem zeros_length (n : Nat) : (zeros n).length = n := by simp [zeros]
theorem start_length : start.length = 8 := rfl
theorem finish_length (s : List Wd) (b : List UInt8) (n : Nat) (h : s.length = 8) : (finish s b n).length = 8 := by
  rw [finish_def]
  split
  · exact after_length _ _ (after_length _ _ h)
  · exact after_length _ _ h

/-- block k of a text -/
def blk (l : List UInt8) (k : Nat) : List UInt8 := wall (fun p : List UInt8 × Nat => (p.1.drop (64 * p.2)).take 64) 0 (l, k)
theorem blk_def (l : List UInt8) (k : Nat) : blk l k = (l.drop (64 * k)).take 64 := wall_eq _ _
/-- the state behind k blocks -/
def blocks0 (l : List UInt8) : Nat → List Wd
  | 0 => start
  | k + 1 => after (blocks0 l k) (blk l k)
def blocks (l : List UInt8) (k : Nat) : List Wd := wall (fun p : List UInt8 × Nat => blocks0 p.1 p.2) 0 (l, k)
theorem blocks_def (l : List UInt8) (k : Nat) : blocks l k = blocks0 l k := wall_eq _ _
def state (l : List UInt8) : List Wd := wall (fun l : List UInt8 => blocks l (l.length / 64)) 0 l
theorem state_def (l : List UInt8) : state l = blocks l (l.length / 64) := wall_eq _ _
def tail (l : List UInt8) : List UInt8 := wall (fun l : List UInt8 => l.drop (64 * (l.length / 64)) ++ zeros (64 - l.length % 64)) 0 l
theorem tail_def (l : List UInt8) : tail l = l.drop (64 * (l.length / 64)) ++ zeros (64 - l.length % 64) := wall_eq _ _
def told (s : List Wd) : List UInt8 := wall (fun s : List Wd => (List.range 32).map fun k => UInt8.ofNat ((at' s (k / 4)).toNat / 2 ^ (24 - 8 * (k % 4)))) 0 s
theorem told_def (s : List Wd) : told s = (List.range 32).map fun k => UInt8.ofNat ((at' s (k / 4)).toNat / 2 ^ (24 - 8 * (k % 4))) := wall_eq _ _
def sum (l : List UInt8) : List UInt8 := wall (fun l : List UInt8 => told (finish (state l) (tail l) l.length)) 0 l
/-- the padded text -/
def pad (l : List UInt8) : List UInt8 := wall (fun l : List UInt8 => l ++ [128] ++ zeros ((119 - l.length % 64) % 64) ++ len8 l.length) 0 l

def toldByte (s : List Wd) (k : Nat) : UInt8 := UInt8.ofNat ((at' s (k / 4)).toNat / 2 ^ (24 - 8 * (k % 4)))
/-- the first k bytes, then zeros -/
def toldTo (s : List Wd) (k : Nat) : List UInt8 := (told s).take k ++ zeros (32 - k)
theorem toldTo_zero (s : List Wd) : toldTo s 0 = zeros 32 := by rw [toldTo, List.take_zero]; rfl
theorem told_length' (s : List Wd) : (told s).length = 32 := by simp [told_def]
theorem toldTo_all (s : List Wd) : toldTo s 32 = told s := by
  rw [toldTo, List.take_of_length_le (by rw [told_length']; omega)]; simp [zeros]
theorem toldTo_length (s : List Wd) (k : Nat) (h : k ≤ 32) : (toldTo s k).length = 32 := by
  rw [toldTo, List.length_append, List.length_take, told_length', zeros_length]; omega
theorem toldTo_succ (s : List Wd) (k : Nat) (h : k < 32) : toldTo s (k + 1) = (toldTo s k).set k (toldByte s k) := by
  have hl : ((told s).take k).length = k := by rw [List.length_take, told_length']; omega
  have hk : k < (told s).length := by rw [told_length']; exact h
  have he : (told s)[k] = toldByte s k := by simp [told_def, toldByte]
  rw [toldTo, toldTo, List.set_append_right _ _ (by omega), hl, Nat.sub_self, List.take_succ_eq_append_getElem hk, he, zeros, zeros, show 32 - k = (32 - (k + 1)) + 1 by omega, List.replicate_succ, List.set_cons_zero, List.append_assoc]
  rfl
theorem toldByte_spell (s : List Wd) (i j m : Nat) (hj : j < 4) (hm : m = 24 - 8 * j) : ((toldByte s (4 * i + j)).toNat : Int) = ((at' s i).toNat : Int) / 2 ^ m % 256 := by
  subst hm
  rw [toldByte, show (4 * i + j) / 4 = i by omega, show (4 * i + j) % 4 = j by omega, UInt8.toNat_ofNat']
  simp
theorem blocks_zero (l : List UInt8) : blocks l 0 = start := blocks_def _ _
theorem blocks_succ (l : List UInt8) (k : Nat) : blocks l (k + 1) = after (blocks l k) (blk l k) := by rw [blocks_def, blocks_def]; rfl
theorem blocks_length (l : List UInt8) : ∀ k, (blocks l k).length = 8
  | 0 => by rw [blocks_zero]; rfl
  | k + 1 => by rw [blocks_succ]; exact after_length _ _ (blocks_length l k)
theorem state_length (l : List UInt8) : (state l).length = 8 := by rw [state_def]; exact blocks_length l _
theorem tail_length (l : List UInt8) : (tail l).length = 64 := by
  rw [tail_def, List.length_append, List.length_drop, zeros_length]
  have := Nat.mod_lt l.length (show 64 > 0 by omega)
  have := Nat.div_add_mod l.length 64
  omega
theorem sum_def (l : List UInt8) : sum l = told (finish (state l) (tail l) l.length) := wall_eq _ _
theorem pad_def (l : List UInt8) : pad l = l ++ [128] ++ zeros ((119 - l.length % 64) % 64) ++ len8 l.length := wall_eq _ _
theorem told_length (s : List Wd) : (told s).length = 32 := by simp [told_def]
theorem sum_length (l : List UInt8) : (sum l).length = 32 := by rw [sum_def]; exact told_length _

theorem blk_append (l m : List UInt8) (k : Nat) (h : 64 * (k + 1) ≤ l.length) : blk (l ++ m) k = blk l k := by
  rw [blk_def, blk_def, List.drop_append_of_le_length (by omega), List.take_append_of_le_length (by rw [List.length_drop]; omega)]
theorem blocks_append (l m : List UInt8) : ∀ k, 64 * k ≤ l.length → blocks (l ++ m) k = blocks l k
  | 0, _ => by rw [blocks_zero, blocks_zero]
  | k + 1, h => by rw [blocks_succ, blocks_succ, blocks_append l m k (by omega), blk_append l m k h]

theorem state_nil : state [] = start := by rw [state_def]; exact blocks_zero []
theorem tail_nil : tail [] = zeros 64 := by rw [tail_def]; rfl

/-- what a piece within the block does to the tail -/
def into (b p : List UInt8) (e : Nat) : List UInt8 := b.take e ++ p ++ b.drop (e + p.length)
theorem into_length (b p : List UInt8) (e : Nat) (h : e + p.length ≤ b.length) : (into b p e).length = b.length := by
  simp [into]; omega

theorem tail_take (l : List UInt8) : (tail l).take (l.length % 64) = l.drop (64 * (l.length / 64)) := by
  have h : (l.drop (64 * (l.length / 64))).length = l.length % 64 := by
    rw [List.length_drop]; have := Nat.div_add_mod l.length 64; omega
  rw [tail_def, ← h, List.take_left']
  rfl
theorem tail_drop (l : List UInt8) (k : Nat) : (tail l).drop (l.length % 64 + k) = zeros (64 - (l.length % 64 + k)) := by
  have h : (l.drop (64 * (l.length / 64))).length = l.length % 64 := by
    rw [List.length_drop]; have := Nat.div_add_mod l.length 64; omega
  rw [tail_def, ← List.drop_drop, List.drop_left' h, zeros, List.drop_replicate, zeros]
  congr 1
  omega

/-- a piece that ends within the block -/
theorem add_part (l p : List UInt8) (h : l.length % 64 + p.length < 64) : state (l ++ p) = state l ∧ tail (l ++ p) = into (tail l) p (l.length % 64) := by
  have hd : (l ++ p).length / 64 = l.length / 64 := by rw [List.length_append]; omega
  have hm : (l ++ p).length % 64 = l.length % 64 + p.length := by rw [List.length_append]; omega
  have h64 : 64 * (l.length / 64) ≤ l.length := Nat.mul_div_le _ _
  constructor
  · rw [state_def, hd, state_def, blocks_append _ _ _ h64]
  · rw [into, tail_take, tail_drop l p.length, tail_def (l ++ p), hd, hm, List.drop_append_of_le_length h64]
/-- a piece that fills the block -/
theorem add_full (l p : List UInt8) (h : l.length % 64 + p.length = 64) : state (l ++ p) = after (state l) (into (tail l) p (l.length % 64)) ∧ tail (l ++ p) = zeros 64 := by
  have hd : (l ++ p).length / 64 = l.length / 64 + 1 := by rw [List.length_append]; omega
  have hm : (l ++ p).length % 64 = 0 := by rw [List.length_append]; omega
  have h64 : 64 * (l.length / 64) ≤ l.length := Nat.mul_div_le _ _
  have hl : l.length = 64 * (l.length / 64) + l.length % 64 := (Nat.div_add_mod l.length 64).symm
  have hb : blk (l ++ p) (l.length / 64) = into (tail l) p (l.length % 64) := by
    rw [into, tail_take, tail_drop l p.length, show 64 - (l.length % 64 + p.length) = 0 by omega, zeros, List.replicate_zero, List.append_nil, blk_def, List.drop_append_of_le_length h64, List.take_of_length_le]
    rw [List.length_append, List.length_drop]; omega
  constructor
  · rw [state_def, hd, blocks_succ, hb, blocks_append _ _ _ h64, state_def]
  · rw [tail_def, hd, hm, List.drop_of_length_le (by rw [List.length_append]; omega)]; rfl

theorem lenInto_eq (b : List UInt8) (n : Nat) (h : b.length = 64) : lenInto b n 8 = b.take 56 ++ len8 n := by
  have h8 : (b.drop 56).length = 8 := by rw [List.length_drop, h]
  have hc : (b.take 56).length = 56 := by rw [List.length_take, h]; rfl
  obtain ⟨c, hcd⟩ : ∃ c, b.take 56 = c := ⟨_, rfl⟩
  obtain ⟨d, hd⟩ : ∃ d, b.drop 56 = d := ⟨_, rfl⟩
  have e : b = c ++ d := by rw [← hcd, ← hd, List.take_append_drop]
  rw [hd] at h8
  rw [hcd] at hc
  rw [hcd, e]
  clear hcd hd e h
  match d, h8 with
  | [x0, x1, x2, x3, x4, x5, x6, x7], _ =>
    simp [lenInto_def, lenInto0, hc, len8]

theorem tail_set (l : List UInt8) : (tail l).set (l.length % 64) 128 = l.drop (64 * (l.length / 64)) ++ [128] ++ zeros (63 - l.length % 64) := by
  have h : (l.drop (64 * (l.length / 64))).length = l.length % 64 := by
    rw [List.length_drop]; have := Nat.div_add_mod l.length 64; omega
  have hr : l.length % 64 < 64 := Nat.mod_lt _ (by omega)
  rw [tail_def, List.set_append_right _ _ (by omega), h, Nat.sub_self, zeros, show 64 - l.length % 64 = (63 - l.length % 64) + 1 by omega, List.replicate_succ, List.set_cons_zero, List.append_assoc]
  rfl

theorem pad_length (l : List UInt8) : (pad l).length = 64 * ((pad l).length / 64) ∧ (pad l).length / 64 = if 56 ≤ l.length % 64 then l.length / 64 + 2 else l.length / 64 + 1 := by
  have h : (pad l).length = l.length + 1 + (119 - l.length % 64) % 64 + 8 := by
    simp only [pad_def, List.length_append, List.length_cons, List.length_nil, zeros_length, len8]
  have := Nat.div_add_mod l.length 64
  have hr : l.length % 64 < 64 := Nat.mod_lt _ (by omega)
  split <;> omega

/-- THE SUM REACHED PIECE BY PIECE IS THE PADDED TEXT's -/
theorem finish_pad (l : List UInt8) : finish (state l) (tail l) l.length = blocks (pad l) ((pad l).length / 64) := by
  have hq : 64 * (l.length / 64) ≤ l.length := Nat.mul_div_le _ _
  have hr : l.length % 64 < 64 := Nat.mod_lt _ (by omega)
  have hd : (l.drop (64 * (l.length / 64))).length = l.length % 64 := by
    rw [List.length_drop]; have := Nat.div_add_mod l.length 64; omega
  have hP : pad l = l ++ ([128] ++ zeros ((119 - l.length % 64) % 64) ++ len8 l.length) := by simp [pad_def]
  have hB : blocks (pad l) (l.length / 64) = state l := by rw [hP, blocks_append _ _ _ hq, state_def]
  have hD : (pad l).drop (64 * (l.length / 64)) = l.drop (64 * (l.length / 64)) ++ ([128] ++ zeros ((119 - l.length % 64) % 64) ++ len8 l.length) := by
    rw [hP, List.drop_append_of_le_length hq]
  have h8 : (len8 l.length).length = 8 := rfl
  obtain ⟨D, eD⟩ : ∃ D, l.drop (64 * (l.length / 64)) = D := ⟨_, rfl⟩
  have hset := tail_set l
  rw [eD] at hd hD hset
  rw [(pad_length l).2]
  rw [finish_def]
  by_cases hc : 56 ≤ l.length % 64
  · rw [if_pos hc, if_pos hc, show l.length / 64 + 2 = (l.length / 64 + 1) + 1 from rfl, blocks_succ, blocks_succ, hB]
    have hz : (119 - l.length % 64) % 64 = (63 - l.length % 64) + 56 := by omega
    have e1 : blk (pad l) (l.length / 64) = (tail l).set (l.length % 64) 128 := by
      rw [blk_def, hD, hset, hz, zeros, ← List.replicate_append_replicate, ← List.append_assoc, ← List.append_assoc, ← List.append_assoc, List.append_assoc (D ++ [128] ++ List.replicate (63 - l.length % 64) 0), List.take_append_of_le_length (by simp; omega), List.take_of_length_le (by simp; omega)]
      rfl
    have e2 : blk (pad l) (l.length / 64 + 1) = lenInto (zeros 64) l.length 8 := by
      rw [lenInto_eq _ _ (zeros_length 64), blk_def, show 64 * (l.length / 64 + 1) = 64 * (l.length / 64) + 64 by omega, ← List.drop_drop, hD, hz, zeros, ← List.replicate_append_replicate, ← List.append_assoc, ← List.append_assoc, ← List.append_assoc, List.append_assoc (D ++ [128] ++ List.replicate (63 - l.length % 64) 0), List.drop_left' (by simp; omega), List.take_of_length_le (by simp; omega)]
      rfl
    rw [e1, e2]
  · rw [if_neg hc, if_neg hc, blocks_succ, hB]
    have hz : (119 - l.length % 64) % 64 = 55 - l.length % 64 := by omega
    have e1 : blk (pad l) (l.length / 64) = lenInto ((tail l).set (l.length % 64) 128) l.length 8 := by
      have a1 : List.take 64 (D ++ ([128] ++ zeros (55 - l.length % 64) ++ len8 l.length)) = D ++ ([128] ++ zeros (55 - l.length % 64) ++ len8 l.length) := List.take_of_length_le (by simp [zeros, hd, h8]; omega)
      have a2 : List.take 56 (D ++ [128] ++ zeros (63 - l.length % 64)) = D ++ [128] ++ zeros (55 - l.length % 64) := by
        rw [zeros, show 63 - l.length % 64 = (55 - l.length % 64) + 8 by omega, ← List.replicate_append_replicate, ← List.append_assoc (D ++ [128]), List.take_append_of_le_length (by simp; omega), List.take_of_length_le (by simp; omega), zeros]
      rw [lenInto_eq _ _ (by rw [List.length_set, tail_length]), blk_def, hD, hset, hz, a1, a2]
      simp
    rw [e1]
end Go.Proofs.YtfpdiafedoppnaaDoor.Sm
