/-
  SHA-256 by plain mathematics: words of 32 bits, one round, the words of a block, a block's step, the padded end, the sum. No program here.
-/
import Derived.Laws.BitsAllLaws
namespace Go.Proofs.YtfpdiafedoppnaaDoor.Sm

abbrev Wd := BitVec 32

/-- a value that nobody reckons unasked: it is told by the law below alone -/
def wall {α β : Type} (f : α → β) (k : Nat) (a : α) : β := if h : k = 0 then f a else wall f (k - 1) a
theorem wall_eq {α β : Type} (f : α → β) (a : α) : wall f 0 a = f a := by rw [wall, dif_pos rfl]

def rotr (x : Wd) (n : Nat) : Wd := wall (fun p : Wd × Nat => p.1 <<< (32 - p.2) ||| p.1 >>> p.2) 0 (x, n)
theorem rotr_def (x : Wd) (n : Nat) : rotr x n = x <<< (32 - n) ||| x >>> n := wall_eq _ _

def start : List Wd := [1779033703, 3144134277, 1013904242, 2773480762, 1359893119, 2600822924, 528734635, 1541459225]
def mix : List Wd := [1116352408, 1899447441, 3049323471, 3921009573, 961987163, 1508970993, 2453635748, 2870763221, 3624381080, 310598401, 607225278, 1426881987, 1925078388, 2162078206, 2614888103, 3248222580, 3835390401, 4022224774, 264347078, 604807628, 770255983, 1249150122, 1555081692, 1996064986, 2554220882, 2821834349, 2952996808, 3210313671, 3336571891, 3584528711, 113926993, 338241895, 666307205, 773529912, 1294757372, 1396182291, 1695183700, 1986661051, 2177026350, 2456956037, 2730485921, 2820302411, 3259730800, 3345764771, 3516065817, 3600352804, 4094571909, 275423344, 430227734, 506948616, 659060556, 883997877, 958139571, 1322822218, 1537002063, 1747873779, 1955562222, 2024104815, 2227730452, 2361852424, 2428436474, 2756734187, 3204031479, 3329325298]

/-- the t-th word of a list, 0 beyond it -/
def at' (l : List Wd) (t : Nat) : Wd := l.getD t 0
/-- the t-th byte -/
def by' (b : List UInt8) (t : Nat) : UInt8 := b.getD t 0
/-- a byte as a word -/
def bw (b : UInt8) : Wd := BitVec.ofNat 32 b.toNat

def word (b : List UInt8) (t : Nat) : Wd := wall (fun p : List UInt8 × Nat => bw (by' p.1 (4 * p.2)) <<< 24 ||| bw (by' p.1 (4 * p.2 + 1)) <<< 16 ||| bw (by' p.1 (4 * p.2 + 2)) <<< 8 ||| bw (by' p.1 (4 * p.2 + 3))) 0 (b, t)
theorem word_def (b : List UInt8) (t : Nat) : word b t = bw (by' b (4 * t)) <<< 24 ||| bw (by' b (4 * t + 1)) <<< 16 ||| bw (by' b (4 * t + 2)) <<< 8 ||| bw (by' b (4 * t + 3)) := wall_eq _ _
def s0 (x : Wd) : Wd := rotr x 7 ^^^ rotr x 18 ^^^ x >>> 3
def s1 (x : Wd) : Wd := rotr x 17 ^^^ rotr x 19 ^^^ x >>> 10
/-- the next word behind those that are there -/
def next0 (b : List UInt8) (l : List Wd) : Wd :=
  if l.length < 16 then word b l.length
  else s1 (at' l (l.length - 2)) + at' l (l.length - 7) + s0 (at' l (l.length - 15)) + at' l (l.length - 16)
def next (b : List UInt8) (l : List Wd) : Wd := wall (fun p : List UInt8 × List Wd => next0 p.1 p.2) 0 (b, l)
theorem next_def (b : List UInt8) (l : List Wd) : next b l = next0 b l := wall_eq _ _
/-- the first t words of a block -/
def words0 (b : List UInt8) : Nat → List Wd
  | 0 => []
  | t + 1 => words0 b t ++ [next b (words0 b t)]
def words (b : List UInt8) (t : Nat) : List Wd := wall (fun p : List UInt8 × Nat => words0 p.1 p.2) 0 (b, t)
theorem words_def (b : List UInt8) (t : Nat) : words b t = words0 b t := wall_eq _ _

/-- one round -/
def t1 (s : List Wd) (x : Wd) : Wd := at' s 7 + (rotr (at' s 4) 6 ^^^ rotr (at' s 4) 11 ^^^ rotr (at' s 4) 25) + (at' s 4 &&& at' s 5 ^^^ ~~~(at' s 4) &&& at' s 6) + x
def t2 (s : List Wd) : Wd := (rotr (at' s 0) 2 ^^^ rotr (at' s 0) 13 ^^^ rotr (at' s 0) 22) + (at' s 0 &&& at' s 1 ^^^ at' s 0 &&& at' s 2 ^^^ at' s 1 &&& at' s 2)
def turned0 (s : List Wd) (x : Wd) : List Wd := [t1 s x + t2 s, at' s 0, at' s 1, at' s 2, at' s 3 + t1 s x, at' s 4, at' s 5, at' s 6]
def turned (s : List Wd) (x : Wd) : List Wd := wall (fun p : List Wd × Wd => turned0 p.1 p.2) 0 (s, x)
theorem turned_def (s : List Wd) (x : Wd) : turned s x = turned0 s x := wall_eq _ _
/-- t rounds -/
def turns0 (s : List Wd) (w : List Wd) : Nat → List Wd
  | 0 => s
  | t + 1 => turned (turns0 s w t) (at' mix t + at' w t)
def turns (s : List Wd) (w : List Wd) (t : Nat) : List Wd := wall (fun p : List Wd × List Wd × Nat => turns0 p.1 p.2.1 p.2.2) 0 (s, w, t)
theorem turns_def (s w : List Wd) (t : Nat) : turns s w t = turns0 s w t := wall_eq _ _
/-- the state behind one more block -/
def after (s : List Wd) (b : List UInt8) : List Wd := wall (fun p : List Wd × List UInt8 => p.1.zipWith (· + ·) (turns p.1 (words p.2 64) 64)) 0 (s, b)

theorem words_zero (b : List UInt8) : words b 0 = [] := words_def _ _
theorem words_succ (b : List UInt8) (t : Nat) : words b (t + 1) = words b t ++ [next b (words b t)] := by rw [words_def, words_def]; rfl
theorem turns_zero (s w : List Wd) : turns s w 0 = s := turns_def _ _ _
theorem turns_succ (s w : List Wd) (t : Nat) : turns s w (t + 1) = turned (turns s w t) (at' mix t + at' w t) := by rw [turns_def, turns_def]; rfl
theorem words_length (b : List UInt8) : ∀ t, (words b t).length = t
  | 0 => by rw [words_zero]; rfl
  | t + 1 => by rw [words_succ, List.length_append, words_length b t]; rfl
theorem turned_length (s : List Wd) (x : Wd) : (turned s x).length = 8 := by rw [turned_def]; rfl
theorem turns_length (s w : List Wd) (h : s.length = 8) : ∀ t, (turns s w t).length = 8
  | 0 => by rw [turns_zero]; exact h
  | _ + 1 => by rw [turns_succ]; exact turned_length _ _
theorem after_def (s : List Wd) (b : List UInt8) : after s b = List.zipWith (· + ·) s (turns s (words b 64) 64) := wall_eq _ _
theorem after_length (s : List Wd) (b : List UInt8) (h : s.length = 8) : (after s b).length = 8 := by
  rw [after_def, List.length_zipWith, turns_length _ _ h, h]; rfl

/-- eight words, each by its name -/
theorem eight {s : List Wd} (h : s.length = 8) : ∃ a b c d e f g i, s = [a, b, c, d, e, f, g, i] := by
  match s, h with
  | [a, b, c, d, e, f, g, i], _ => exact ⟨a, b, c, d, e, f, g, i, rfl⟩

/-- the sums of the first i words of two states, then what is left of the first -/
def mixed (s r : List Wd) (i : Nat) : List Wd := wall (fun p : List Wd × List Wd × Nat => List.zipWith (· + ·) (p.1.take p.2.2) (p.2.1.take p.2.2) ++ p.1.drop p.2.2) 0 (s, r, i)
theorem mixed_def (s r : List Wd) (i : Nat) : mixed s r i = List.zipWith (· + ·) (s.take i) (r.take i) ++ s.drop i := wall_eq _ _
theorem mixed_zero (s r : List Wd) : mixed s r 0 = s := by simp [mixed_def]
theorem mixed_all (s r : List Wd) (hs : s.length = 8) (hr : r.length = 8) : mixed s r 8 = List.zipWith (· + ·) s r := by
  rw [mixed_def, List.take_of_length_le (by omega), List.take_of_length_le (by omega), List.drop_of_length_le (by omega), List.append_nil]
theorem mixed_length (s r : List Wd) (i : Nat) (hs : s.length = 8) (hr : r.length = 8) : (mixed s r i).length = 8 := by
  simp [mixed_def, List.length_zipWith]; omega
theorem at_get {l : List Wd} {j : Nat} (h : j < l.length) : at' l j = l[j] := by simp [at', h]
theorem at_mixed (s r : List Wd) (i : Nat) (hs : s.length = 8) (hr : r.length = 8) (hi : i < 8) : at' (mixed s r i) i = at' s i := by
  have h1 : (List.zipWith (· + ·) (s.take i) (r.take i)).length = i := by simp; omega
  rw [at', mixed_def, List.getD_eq_getElem?_getD, List.getElem?_append_right (by omega), h1, Nat.sub_self, List.getElem?_drop, at', List.getD_eq_getElem?_getD]; rfl
theorem mixed_succ (s r : List Wd) (i : Nat) (hs : s.length = 8) (hr : r.length = 8) (hi : i < 8) : mixed s r (i + 1) = (mixed s r i).set i (at' s i + at' r i) := by
  have h1 : (List.zipWith (· + ·) (s.take i) (r.take i)).length = i := by simp; omega
  rw [mixed_def, mixed_def, List.set_append_right _ _ (by omega), h1, Nat.sub_self, List.take_succ_eq_append_getElem (by omega), List.take_succ_eq_append_getElem (by omega),
    List.zipWith_append (by simp; omega), List.drop_eq_getElem_cons (by omega : i < s.length), List.set_cons_zero, at_get (by omega), at_get (by omega), List.append_assoc]
  rfl

/-! How a walk spells the words' operations. -/
theorem lt' (x : Wd) : x.toNat < 4294967296 := x.isLt
theorem wrap_nat (n : Nat) : IntKind.u32.wrap (n : Int) = ((BitVec.ofNat 32 n).toNat : Int) := by
  rw [IntKind.wrap_u32', BitVec.toNat_ofNat]; omega
theorem add_eq (a b : Wd) : IntKind.u32.wrap ((a.toNat : Int) + (b.toNat : Int)) = ((a + b).toNat : Int) := by
  rw [IntKind.wrap_u32', BitVec.toNat_add]; omega
theorem xor_eq (a b : Wd) : bits .xor .u32 (a.toNat : Int) (b.toNat : Int) = ((a ^^^ b).toNat : Int) := by
  rw [u32_xor_nat _ _ (lt' a) (lt' b), BitVec.toNat_xor]
theorem and_eq (a b : Wd) : bits .and .u32 (a.toNat : Int) (b.toNat : Int) = ((a &&& b).toNat : Int) := by
  rw [u32_and_nat _ _ (lt' a) (lt' b), BitVec.toNat_and]
theorem or_eq (a b : Wd) : bits .or .u32 (a.toNat : Int) (b.toNat : Int) = ((a ||| b).toNat : Int) := by
  rw [u32_or_nat _ _ (lt' a) (lt' b), BitVec.toNat_or]
theorem not_eq (a : Wd) : bits .xor .u32 4294967295 (a.toNat : Int) = ((~~~ a).toNat : Int) := by
  have h := xor_eq (BitVec.allOnes 32) a
  rw [show ((BitVec.allOnes 32).toNat : Int) = 4294967295 from rfl, BitVec.allOnes_xor] at h
  exact h
theorem shl_eq (a : Wd) (n : Nat) : IntKind.u32.wrap ((a.toNat : Int) * (2 : Int) ^ n) = ((a <<< n).toNat : Int) := by
  have e : (a.toNat : Int) * (2 : Int) ^ n = ((a.toNat * 2 ^ n : Nat) : Int) := by rw [Int.natCast_mul, Int.natCast_pow]; rfl
  rw [e, wrap_nat, BitVec.toNat_ofNat, BitVec.toNat_shiftLeft, Nat.shiftLeft_eq]
theorem shl_eq' (a : Wd) (n : Nat) : (a.toNat : Int) * (2 : Int) ^ n % 4294967296 = ((a <<< n).toNat : Int) := by rw [← shl_eq, IntKind.wrap_u32']
theorem add_eq' (a b : Wd) : ((a.toNat : Int) + (b.toNat : Int)) % 4294967296 = ((a + b).toNat : Int) := by rw [← add_eq, IntKind.wrap_u32']
theorem not_eq' (a : Wd) : bits .xor .u32 IntKind.u32.max (a.toNat : Int) = ((~~~ a).toNat : Int) := not_eq a
theorem sumE (d i p q x : Wd) : ((d.toNat : Int) + ((i.toNat : Int) + (p.toNat : Int) + (q.toNat : Int) + (x.toNat : Int))) % 4294967296 = ((d + (i + p + q + x)).toNat : Int) := by
  simp only [← add_eq']; omega
theorem sumA (i p q x r s : Wd) : ((i.toNat : Int) + (p.toNat : Int) + (q.toNat : Int) + (x.toNat : Int) + ((r.toNat : Int) + (s.toNat : Int))) % 4294967296 = ((i + p + q + x + (r + s)).toNat : Int) := by
  simp only [← add_eq']; omega
theorem bw_eq (x : UInt8) : (x.toNat : Int) % 4294967296 = ((bw x).toNat : Int) := by
  have := x.toNat_lt
  rw [bw, BitVec.toNat_ofNat]; omega
theorem shl24 (a : Wd) : (a.toNat : Int) * (16777216 : Int) % (4294967296 : Int) = ((a <<< 24).toNat : Int) := shl_eq' a 24
theorem shl16 (a : Wd) : (a.toNat : Int) * (65536 : Int) % (4294967296 : Int) = ((a <<< 16).toNat : Int) := shl_eq' a 16
theorem shl8 (a : Wd) : (a.toNat : Int) * (256 : Int) % (4294967296 : Int) = ((a <<< 8).toNat : Int) := shl_eq' a 8
theorem next_lo (b : List UInt8) (t : Nat) (h : t < 16) : next b (words b t) = word b t := by rw [next_def, next0, words_length, if_pos h]
theorem next_hi (b : List UInt8) (t : Nat) (h : ¬ t < 16) : next b (words b t) = s1 (at' (words b t) (t - 2)) + at' (words b t) (t - 7) + s0 (at' (words b t) (t - 15)) + at' (words b t) (t - 16) := by rw [next_def, next0, words_length, if_neg h]
theorem word_spell (b : List UInt8) (t m m1 m2 m3 : Nat) (h : m = 4 * t ∧ m1 = m + 1 ∧ m2 = m + 2 ∧ m3 = m + 3) :
    bits .or .u32 (bits .or .u32 (bits .or .u32 (((by' b m).toNat : Int) % 4294967296 * 16777216 % 4294967296) (((by' b m1).toNat : Int) % 4294967296 * 65536 % 4294967296)) (((by' b m2).toNat : Int) % 4294967296 * 256 % 4294967296)) (((by' b m3).toNat : Int) % 4294967296) = ((word b t).toNat : Int) := by
  obtain ⟨rfl, rfl, rfl, rfl⟩ := h
  simp only [bw_eq, shl24, shl16, shl8, or_eq, word_def]
theorem shr_eq (a : Wd) (n : Nat) : (a.toNat : Int) / (2 : Int) ^ n = ((a >>> n).toNat : Int) := by
  have e : (2 : Int) ^ n = ((2 ^ n : Nat) : Int) := by rw [Int.natCast_pow]; rfl
  rw [e, BitVec.toNat_ushiftRight, Nat.shiftRight_eq_div_pow, Int.natCast_ediv]
theorem next_spell (p q r s : Wd) :
    (bits .xor .u32 (bits .xor .u32 ((rotr p 17).toNat : Int) ((rotr p 19).toNat : Int)) ((p.toNat : Int) / (1024 : Int)) + (q.toNat : Int) + bits .xor .u32 (bits .xor .u32 ((rotr r 7).toNat : Int) ((rotr r 18).toNat : Int)) ((r.toNat : Int) / (8 : Int)) + (s.toNat : Int)) % (4294967296 : Int)
      = ((s1 p + q + s0 r + s).toNat : Int) := by
  have e1 : (p.toNat : Int) / (1024 : Int) = ((p >>> 10).toNat : Int) := shr_eq p 10
  have e2 : (r.toNat : Int) / (8 : Int) = ((r >>> 3).toNat : Int) := shr_eq r 3
  rw [e1, e2]
  simp only [xor_eq, s0, s1, ← add_eq']
  omega
end Go.Proofs.YtfpdiafedoppnaaDoor.Sm
