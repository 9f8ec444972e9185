/-
  The mathematics of layer 7: bytes of a text cut into tokens; no program in this text.
-/
import Derived.Lib.AtoiAllCases
import Derived.Lib.ItoaMem
import Derived.Test.YtpdmmmdkpipmkaaGreatDoorQMc
namespace Go.Proofs.YtpdmmmdkpipmkaaGreatDoor
namespace Lx
def small (c: UInt8): Bool:= decide (97 ≤ c.toNat) && decide (c.toNat ≤ 122)
def great (c: UInt8): Bool:= decide (65 ≤ c.toNat) && decide (c.toNat ≤ 90)
def digit (c: UInt8): Bool:= decide (48 ≤ c.toNat) && decide (c.toNat ≤ 57)
def inner (c: UInt8): Bool:= small c || great c || digit c || decide (c.toNat = 95)
def plain (c: UInt8): Bool:= decide (32 ≤ c.toNat) && decide (c.toNat ≤ 126) && !decide (c.toNat = 34) && !decide (c.toNat = 92)
def noLf (c: UInt8): Bool:= !decide (c.toNat = 10)
def blank (c: UInt8): Bool:= decide (c.toNat = 32) || decide (c.toNat = 9) || decide (c.toNat = 10) || decide (c.toNat = 13)
def run (p: UInt8 → Bool) (l: List UInt8) (i: Nat): Nat:= i + ((l.drop i).takeWhile p).length
theorem run_step {p: UInt8 → Bool} {l: List UInt8} {i: Nat} (h: i < l.length) (hp: p l[i] = true): run p l i = run p l (i + 1):= by
 unfold run
 rw [List.drop_eq_getElem_cons h,List.takeWhile_cons_of_pos hp,List.length_cons];omega
theorem run_stop {p: UInt8 → Bool} {l: List UInt8} {i: Nat} (h: i < l.length) (hp: p l[i] = false): run p l i = i:= by
 unfold run
 rw [List.drop_eq_getElem_cons h,List.takeWhile_cons_of_neg (by simp [hp])];simp
theorem run_end {p: UInt8 → Bool} {l: List UInt8} {i: Nat} (h: l.length ≤ i): run p l i = i:= by
 unfold run
 rw [List.drop_of_length_le h];simp
theorem le_run (p: UInt8 → Bool) (l: List UInt8) (i: Nat): i ≤ run p l i:= Nat.le_add_right _ _
theorem run_le (p: UInt8 → Bool) {l: List UInt8} {i: Nat} (h: i ≤ l.length): run p l i ≤ l.length:= by
 unfold run
 have:= (List.takeWhile_prefix p (l:= l.drop i)).length_le
 rw [List.length_drop] at this
 omega
theorem run_in' {p: UInt8 → Bool} {l: List UInt8} {j: Nat} (h: j < l.length): ∀ (k i: Nat),l.length ≤ i + k → i ≤ j → j < run p l i → p l[j] = true
 | 0,i,hk,hi,hj => by omega
 | k + 1,i,hk,hi,hj => by
  cases hp: p l[i] with
  | true =>
   by_cases e: i = j
   ·subst e;exact hp
   ·exact run_in' h k (i + 1) (by omega) (by omega) (by rw [← run_step (by omega) hp];exact hj)
  | false => rw [run_stop (by omega) hp] at hj;omega
theorem run_in {p: UInt8 → Bool} {l: List UInt8} {i j: Nat} (hi: i ≤ j) (hj: j < run p l i) (h: j < l.length): p l[j] = true:= run_in' h l.length i (by omega) hi hj
def note (n: Bool) (c: UInt8): Bool:= if c.toNat = 37 then true else if c.toNat = 10 then false else n
def sk: Bool → List UInt8 → Nat
 | _,[] => 0
 | n,c:: r => if note n c = false ∧ blank c = false then 0 else 1 + sk (note n c) r
def skipN (n: Bool) (l: List UInt8) (i: Nat): Nat:= i + sk n (l.drop i)
def skip (l: List UInt8) (i: Nat): Nat:= skipN false l i
theorem sk_le: ∀ (l: List UInt8) (n: Bool),sk n l ≤ l.length
 | [],_ => Nat.zero_le _
 | c:: r,n => by
  rw [sk]
  split
  ·exact Nat.zero_le _
  ·have:= sk_le r (note n c);rw [List.length_cons];omega
theorem skipN_end {n: Bool} {l: List UInt8} {i: Nat} (h: l.length ≤ i): skipN n l i = i:= by
 unfold skipN;rw [List.drop_of_length_le h];rfl
theorem skipN_stop {n: Bool} {l: List UInt8} {i: Nat} (h: i < l.length) (h1: note n l[i] = false) (h2: blank l[i] = false): skipN n l i = i:= by
 unfold skipN;rw [List.drop_eq_getElem_cons h,sk,if_pos ⟨h1,h2⟩];rfl
theorem skipN_step {n: Bool} {l: List UInt8} {i: Nat} (h: i < l.length) (h1: ¬ (note n l[i] = false ∧ blank l[i] = false)): skipN n l i = skipN (note n l[i]) l (i + 1):= by
 unfold skipN;rw [List.drop_eq_getElem_cons h,sk,if_neg h1];omega
theorem le_skip (l: List UInt8) (i: Nat): i ≤ skip l i:= Nat.le_add_right _ _
theorem skip_le {l: List UInt8} {i: Nat} (h: i ≤ l.length): skip l i ≤ l.length:= by
 unfold skip skipN
 have:= sk_le (l.drop i) false
 rw [List.length_drop] at this
 omega
theorem skip_blank {l: List UInt8} {i: Nat} (h: i < l.length) (hb: blank l[i] = true): skip l i = skip l (i + 1):= by
 unfold skip
 rw [skipN_step h (by simp [hb])]
 congr 1
 unfold note
 simp only [blank,Bool.or_eq_true,decide_eq_true_eq] at hb
 rw [if_neg (by omega)]
 simp
theorem skip_other {l: List UInt8} {i: Nat} (h: i < l.length) (hb: blank l[i] = false) (hn: l[i].toNat ≠ 37): skip l i = i:= by
 refine skipN_stop h ?_ hb
 unfold note;rw [if_neg hn];simp
theorem note_run {l: List UInt8}: ∀ (k i: Nat),l.length ≤ i + k → skipN true l i = skip l (run noLf l i)
 | 0,i,hk => by rw [skipN_end (by omega),run_end (by omega)];exact (skipN_end (by omega)).symm
 | k + 1,i,hk => by
  rcases Nat.lt_or_ge i l.length with h | h
  ·by_cases hc: l[i].toNat = 10
   ·rw [run_stop h (by simp [noLf,hc]),skip_blank h (by simp [blank,hc]),skipN_step h (by simp [blank,hc])]
    simp [note,hc,skip]
   ·have e: note true l[i] = true:= by unfold note;simp [hc]
    rw [run_step h (by simp [noLf,hc]),skipN_step h (by simp [e]),e]
    exact note_run k (i + 1) (by omega)
  ·rw [skipN_end h,run_end h];exact (skipN_end h).symm
theorem skip_note {l: List UInt8} {i: Nat} (h: i < l.length) (hn: l[i].toNat = 37): skip l i = skip l (run noLf l i):= by
 have e: note false l[i] = true:= by unfold note;simp [hn]
 rw [run_step h (by simp [noLf,hn]),← note_run l.length (i + 1) (by omega)]
 unfold skip
 rw [skipN_step h (by simp [e]),e]
structure Tok where
 kind: Int
 text: List UInt8
 n: Int
 pl: Nat
def sub (l: List UInt8) (i j: Nat): List UInt8:= (l.drop i).take (j - i)
theorem sub_length {l: List UInt8} {i j: Nat} (h: j ≤ l.length): (sub l i j).length = j - i:= by
 unfold sub;rw [List.length_take,List.length_drop];omega
def dval (ds: List UInt8): Nat:= ds.foldl (fun a c => a * 10 + (c.toNat - 48)) 0
def numOf (neg: Bool) (ds: List UInt8): Option Int:=
 if ds = [] ∨ (ds.head? = some 48 ∧ (1 < ds.length ∨ neg = true)) then none
 else if neg = true then (if dval ds ≤ 9223372036854775808 then some (-(dval ds: Int)) else none)
 else if dval ds < 9223372036854775808 then some (dval ds: Int) else none
def isNeg (l: List UInt8) (i: Nat): Bool:= decide (l[i]?.map (·.toNat) = some 45)
def first (l: List UInt8) (i: Nat): Nat:= if isNeg l i = true then i + 1 else i
def number (l: List UInt8) (i: Nat): Option (Tok × Nat):=
 (numOf (isNeg l i) (sub l (first l i) (run digit l (first l i)))).map fun v => (⟨3,[],v,i⟩,run digit l (first l i))
def quote (l: List UInt8) (i: Nat): Option (Tok × Nat):=
 if l[run plain l (i + 1)]?.map (·.toNat) = some 34 then some (⟨4,sub l (i + 1) (run plain l (i + 1)),0,i⟩,run plain l (i + 1) + 1) else none
def word (k: Int) (l: List UInt8) (i: Nat): Option (Tok × Nat):= some (⟨k,sub l i (run inner l i),0,i⟩,run inner l i)
def signs (c: UInt8): Bool:= decide (c.toNat = 40) || decide (c.toNat = 41) || decide (c.toNat = 44) || decide (c.toNat = 46) || decide (c.toNat = 58)
def sign (l: List UInt8) (i: Nat) (c: UInt8): Option (Tok × Nat):=
 if c.toNat = 58 ∧ l[i + 1]?.map (·.toNat) = some 45 then some (⟨5,[58,45],0,i⟩,i + 2)
 else if signs c = true then some (⟨5,[c],0,i⟩,i + 1) else none
def oneC (l: List UInt8) (i: Nat) (c: UInt8): Option (Tok × Nat):=
 if small c = true then word 1 l i else if great c = true then word 2 l i else if (digit c || decide (c.toNat = 45)) = true then number l i else if c.toNat = 34 then quote l i else sign l i c
def one (l: List UInt8) (i: Nat): Option (Tok × Nat):= match l[i]? with | none => none | some c => oneC l i c
theorem one_at {l: List UInt8} {i: Nat} (h: i < l.length): one l i = oneC l i l[i]:= by simp [one,h]
def cons (t: Tok): Except (Nat × Int) (List Tok) → Except (Nat × Int) (List Tok)
 | .ok L => .ok (t:: L)
 | .error x => .error x
def tksF: Nat → List UInt8 → Nat → Except (Nat × Int) (List Tok)
 | 0,_,_ => .ok []
 | n + 1,l,i => if l.length ≤ i then .ok [] else match one l i with
  | none => .error (i,70)
  | some (t,e) => if 32 < t.text.length then .error (i,71) else cons t (tksF n l (skip l e))
def tks (l: List UInt8) (i: Nat): Except (Nat × Int) (List Tok):= tksF (l.length + 1) l i
theorem first_le (l: List UInt8) (i: Nat): i ≤ first l i:= by unfold first;split <;> omega
theorem first_lt {l: List UInt8} {i: Nat} (h: i < l.length): first l i ≤ l.length:= by unfold first;split <;> omega
theorem number_gt {l: List UInt8} {i: Nat} {t: Tok} {e: Nat} (hi: i < l.length) (h: number l i = some (t,e)): i < e ∧ e ≤ l.length:= by
 unfold number at h
 rw [Option.map_eq_some_iff] at h
 obtain ⟨v,hv,he⟩:= h
 cases he
 have h1:= first_le l i
 have h2:= le_run digit l (first l i)
 have h3:= run_le digit (first_lt hi)
 refine ⟨?_,h3⟩
 rcases Nat.lt_or_ge (first l i) (run digit l (first l i)) with h' | h'
 ·omega
 ·have: sub l (first l i) (run digit l (first l i)) = []:= by
   apply List.eq_nil_of_length_eq_zero
   rw [sub_length h3];omega
  rw [this] at hv;simp [numOf] at hv
theorem quote_gt {l: List UInt8} {i: Nat} {t: Tok} {e: Nat} (h: quote l i = some (t,e)): i < e ∧ e ≤ l.length:= by
 unfold quote at h
 split at h
 ·rename_i hq
  cases h
  have h1:= le_run plain l (i + 1)
  have: run plain l (i + 1) < l.length:= by
   rcases Nat.lt_or_ge (run plain l (i + 1)) l.length with h' | h'
   ·exact h'
   ·simp [h'] at hq
  omega
 ·cases h
theorem word_gt {k: Int} {l: List UInt8} {i: Nat} {t: Tok} {e: Nat} (hi: i < l.length) (hc: inner l[i] = true) (h: word k l i = some (t,e)): i < e ∧ e ≤ l.length:= by
 unfold word at h
 cases h
 have h1:= run_le inner (Nat.le_of_lt hi)
 have h2:= le_run inner l (i + 1)
 rw [run_step hi hc] at *
 omega
theorem sign_gt {c: UInt8} {l: List UInt8} {i: Nat} {t: Tok} {e: Nat} (hi: i < l.length) (h: sign l i c = some (t,e)): i < e ∧ e ≤ l.length:= by
 unfold sign at h
 split at h
 ·rename_i hq
  cases h
  have: i + 1 < l.length:= by
   rcases Nat.lt_or_ge (i + 1) l.length with h' | h'
   ·exact h'
   ·simp [h'] at hq
  omega
 ·split at h
  ·cases h;omega
  ·cases h
theorem small_inner {c: UInt8} (h: small c = true): inner c = true:= by simp [inner,h]
theorem great_inner {c: UInt8} (h: great c = true): inner c = true:= by simp [inner,h]
theorem one_gt {l: List UInt8} {i: Nat} {t: Tok} {e: Nat} (hi: i < l.length) (h: one l i = some (t,e)): i < e ∧ e ≤ l.length:= by
 rw [one_at hi] at h
 unfold oneC at h
 split at h
 ·rename_i hc;exact word_gt hi (small_inner hc) h
 split at h
 ·rename_i hc;exact word_gt hi (great_inner hc) h
 split at h
 ·exact number_gt hi h
 split at h
 ·exact quote_gt h
 ·exact sign_gt hi h
theorem fuel {l: List UInt8}: ∀ (n m i: Nat),l.length < i + n → l.length < i + m → tksF n l i = tksF m l i
 | 0,0,_,_,_ => rfl
 | 0,m + 1,i,h1,h2 => by rw [tksF,tksF,if_pos (by omega)]
 | n + 1,0,i,h1,h2 => by rw [tksF,tksF,if_pos (by omega)]
 | n + 1,m + 1,i,h1,h2 => by
  rw [tksF,tksF]
  split
  ·rfl
  ·rename_i h
   cases h1: one l i with
   | none => rfl
   | some r =>
    obtain ⟨t,e⟩:= r
    simp only
    split
    ·rfl
    ·have:= one_gt (by omega) h1
     have h3:= le_skip l e
     rw [fuel n m (skip l e) (by omega) (by omega)]
theorem tks_end {l: List UInt8} {i: Nat} (h: l.length ≤ i): tks l i = .ok []:= by rw [tks,tksF,if_pos h]
theorem tks_bad {l: List UInt8} {i: Nat} (h: i < l.length) (h1: one l i = none): tks l i = .error (i,70):= by
 rw [tks,tksF,if_neg (by omega)];simp only [h1]
theorem tks_long {l: List UInt8} {i: Nat} {t: Tok} {e: Nat} (h: i < l.length) (h1: one l i = some (t,e)) (h2: 32 < t.text.length): tks l i = .error (i,71):= by
 rw [tks,tksF,if_neg (by omega)];simp only [h1];rw [if_pos h2]
theorem tks_cons {l: List UInt8} {i: Nat} {t: Tok} {e: Nat} (h: i < l.length) (h1: one l i = some (t,e)) (h2: ¬ 32 < t.text.length): tks l i = cons t (tks l (skip l e)):= by
 rw [tks,tksF,if_neg (by omega)];simp only [h1];rw [if_neg h2]
 have:= one_gt h h1
 have h3:= le_skip l e
 rw [tks,fuel l.length (l.length + 1) (skip l e) (by omega) (by omega)]
def prep (L: List Tok): Except (Nat × Int) (List Tok) → Except (Nat × Int) (List Tok)
 | .ok M => .ok (L ++ M)
 | .error x => .error x
theorem prep_nil (r: Except (Nat × Int) (List Tok)): prep [] r = r:= by cases r <;> rfl
theorem prep_cons (L: List Tok) (t: Tok) (r: Except (Nat × Int) (List Tok)): prep L (cons t r) = prep (L ++ [t]) r:= by cases r <;> simp [prep,cons]
def toks: Except (Nat × Int) (List Tok) → List Tok
 | .ok L => L
 | .error _ => []
def place: Except (Nat × Int) (List Tok) → Nat
 | .ok _ => 0
 | .error x => x.1
def err: Except (Nat × Int) (List Tok) → Int
 | .ok _ => 0
 | .error x => x.2
def ans (l: List UInt8): Except (Nat × Int) (List Tok):= if 4096 < l.length then .error (0,3) else tks l (skip l 0)
end Lx
end Go.Proofs.YtpdmmmdkpipmkaaGreatDoor
namespace Go.Proofs.YtpdmmmdkpipmkaaGreatDoor
namespace Lx
open Go.Lib
def dv (acc: Nat) (ds: List UInt8): Nat:= ds.foldl (fun a c => a * 10 + (c.toNat - 48)) acc
theorem dval_dv (ds: List UInt8): dval ds = dv 0 ds:= by simp only [dval,dv]
theorem dv_cons (acc: Nat) (c: UInt8) (r: List UInt8): dv acc (c:: r) = dv (acc * 10 + (c.toNat - 48)) r:= by simp only [dv,List.foldl_cons]
theorem dv_snoc (acc: Nat) (c: UInt8) (r: List UInt8): dv acc (r ++ [c]) = dv acc r * 10 + (c.toNat - 48):= by simp [dv]
theorem dv_ge: ∀ (ds: List UInt8) (acc: Nat),acc ≤ dv acc ds
 | [],_ => Nat.le_refl _
 | c:: r,acc => by rw [dv_cons];have:= dv_ge r (acc * 10 + (c.toNat - 48));omega
theorem digit_le {c: UInt8} (h: digit c = true): 48 ≤ c.toNat ∧ c.toNat ≤ 57:= by simpa [digit] using h
theorem pu_ok: ∀ (ds: List UInt8) (acc: Nat),(∀ c ∈ ds,digit c = true) → dv acc ds < 18446744073709551616 → parseUint10 acc ds = .ok (dv acc ds)
 | [],_,_,_ => rfl
 | c:: r,acc,hd,hl => by
  have hc:= digit_le (hd c (by simp))
  have hg:= dv_ge r (acc * 10 + (c.toNat - 48))
  rw [dv_cons] at hl ⊢
  rw [parseUint10,if_pos hc,if_neg (by omega),if_neg (by omega)]
  exact pu_ok r _ (fun x hx => hd x (by simp [hx])) hl
theorem pu_big: ∀ (ds: List UInt8) (acc: Nat),(∀ c ∈ ds,digit c = true) → acc < 18446744073709551616 → 18446744073709551616 ≤ dv acc ds → parseUint10 acc ds = .range
 | [],acc,_,h,hl => by simp [dv] at hl;omega
 | c:: r,acc,hd,h,hl => by
  have hc:= digit_le (hd c (by simp))
  rw [dv_cons] at hl
  rw [parseUint10,if_pos hc]
  split
  ·rfl
  split
  ·rfl
  ·exact pu_big r _ (fun x hx => hd x (by simp [hx])) (by omega) hl
theorem pu_is {ds: List UInt8} (hd: ∀ c ∈ ds,digit c = true) {u: Nat} (h: parseUint10 0 ds = .ok u): u = dval ds:= by
 rcases Nat.lt_or_ge (dv 0 ds) 18446744073709551616 with h1 | h1
 ·rw [pu_ok ds 0 hd h1] at h;cases h;rfl
 ·rw [pu_big ds 0 hd (by omega) h1] at h;cases h
theorem dec_small {u: Nat} (h: u < 10): decDigits u = [UInt8.ofNat (48 + u)]:= by rw [decDigits,dif_pos h]
theorem dec_big {u: Nat} (h: ¬ u < 10): decDigits u = decDigits (u / 10) ++ [UInt8.ofNat (48 + u % 10)]:= by rw [decDigits,dif_neg h]
theorem ofNat_toNat {n: Nat} (h: n < 256): (UInt8.ofNat n).toNat = n:= by simp [Nat.mod_eq_of_lt h]
theorem dec_ne (u: Nat): decDigits u ≠ []:= by
 intro h
 have h1:= decDigits_length u
 rw [h,List.length_nil] at h1
 have h2:= nDigits_pos u
 omega
theorem dec_head {u: Nat} (h: (decDigits u).head? = some 48): u = 0:= by
 induction u using Nat.strongRecOn with
 | _ u ih =>
  by_cases h1: u < 10
  ·rw [dec_small h1] at h
   simp only [List.head?_cons,Option.some.injEq] at h
   have:= congrArg UInt8.toNat h
   rw [ofNat_toNat (by omega)] at this
   simp at this
   exact this
  ·obtain ⟨a,q,e⟩:= List.exists_cons_of_ne_nil (dec_ne (u / 10))
   rw [dec_big h1,e] at h
   have:= ih (u / 10) (by omega) (by rw [e];simpa using h)
   omega
theorem val_pos {c: UInt8} {r: List UInt8} (hc: digit c = true) (h: c ≠ 48): 1 ≤ dv 0 (c:: r):= by
 rw [dv_cons]
 have h1:= dv_ge r (0 * 10 + (c.toNat - 48))
 have h2:= digit_le hc
 have h3: c.toNat ≠ 48:= fun e => h (UInt8.toNat_inj.1 e)
 omega
theorem val_dec: ∀ (n: Nat) (ds: List UInt8),ds.length = n → (∀ c ∈ ds,digit c = true) → ds ≠ [] → (1 < ds.length → ds.head? ≠ some 48) → decDigits (dval ds) = ds
 | 0,ds,hn,_,hne,_ => absurd (List.eq_nil_of_length_eq_zero hn) hne
 | n + 1,ds,hn,hd,hne,hh => by
  obtain ⟨r,c,rfl⟩: ∃ r c,ds = r ++ [c]:= ⟨ds.dropLast,ds.getLast hne,(List.dropLast_concat_getLast hne).symm⟩
  have hc:= digit_le (hd c (by simp))
  rw [dval_dv,dv_snoc]
  by_cases hr: r = []
  ·subst hr
   have e: dv 0 [] = 0:= rfl
   rw [e,dec_small (by omega)]
   congr 1
   apply UInt8.toNat_inj.1
   rw [ofNat_toNat (by omega)];omega
  ·obtain ⟨a,q,rfl⟩:= List.exists_cons_of_ne_nil hr
   have hd': ∀ c ∈ (a:: q),digit c = true:= fun x hx => hd x (List.mem_append_left _ hx)
   have ha: a ≠ 48:= fun e => hh (by simp) (by simp [e])
   have hp:= val_pos (r:= q) (hd' a (by simp)) ha
   rw [dec_big (by omega),show (dv 0 (a:: q) * 10 + (c.toNat - 48)) / 10 = dv 0 (a:: q) by omega,show (dv 0 (a:: q) * 10 + (c.toNat - 48)) % 10 = c.toNat - 48 by omega,← dval_dv,
    val_dec n (a:: q) (by simp at hn ⊢;omega) hd' (by simp) (fun _ => by simp [ha])]
   congr 2
   apply UInt8.toNat_inj.1
   rw [ofNat_toNat (by omega)];omega
def txt (neg: Bool) (ds: List UInt8): List UInt8:= if neg = true then 45:: ds else ds
theorem mag {ds: List UInt8} (hne: ds ≠ []): parseMag ds = parseUint10 0 ds:= by unfold parseMag;rw [if_neg hne]
theorem atoi_neg (ds: List UInt8): atoiAll (txt true ds) = signed (parseMag ds):= by unfold txt;rw [if_pos rfl,atoiAll_minus]
theorem atoi_pos {ds: List UInt8} (hd: ∀ c ∈ ds,digit c = true) (hne: ds ≠ []): atoiAll (txt false ds) = signless (parseMag ds):= by
 obtain ⟨a,q,rfl⟩:= List.exists_cons_of_ne_nil hne
 have:= digit_le (hd a (by simp))
 unfold txt
 rw [if_neg (by simp),atoiAll_plain a q (by omega) (by omega)]
theorem numOf_some {neg: Bool} {ds: List UInt8} {v: Int} (h: numOf neg ds = some v): ds ≠ [] ∧ ¬ (ds.head? = some 48 ∧ (1 < ds.length ∨ neg = true)) ∧ (neg = true → dval ds ≤ 9223372036854775808 ∧ v = -(dval ds: Int)) ∧ (neg = false → dval ds < 9223372036854775808 ∧ v = (dval ds: Int)):= by
 unfold numOf at h
 split at h
 ·cases h
 rename_i h1
 rw [not_or] at h1
 refine ⟨h1.1,h1.2,fun hn => ?_,fun hn => ?_⟩
 ·rw [if_pos hn] at h
  split at h
  ·cases h;exact ⟨by assumption,rfl⟩
  ·cases h
 ·rw [if_neg (by simp [hn])] at h
  split at h
  ·cases h;exact ⟨by assumption,rfl⟩
  ·cases h
theorem num_yes {neg: Bool} {ds: List UInt8} {v: Int} (hd: ∀ c ∈ ds,digit c = true) (h: numOf neg ds = some v): atoiAll (txt neg ds) = .ok v ∧ itoa v = txt neg ds:= by
 obtain ⟨hne,hh,h1,h2⟩:= numOf_some h
 have hdec:= val_dec ds.length ds rfl hd hne (fun hl he => hh ⟨he,.inl hl⟩)
 cases neg with
 | true =>
  obtain ⟨hv,rfl⟩:= h1 rfl
  have hpu:= pu_ok ds 0 hd (by rw [← dval_dv];omega)
  rw [← dval_dv] at hpu
  refine ⟨by rw [atoi_neg,mag hne,hpu];unfold signed;simp only;rw [if_neg (by omega)], ?_⟩
  have hpos: 1 ≤ dval ds:= by
   obtain ⟨a,q,rfl⟩:= List.exists_cons_of_ne_nil hne
   exact val_pos (hd a (by simp)) (fun e => hh ⟨by simp [e],.inr rfl⟩)
  rw [itoa_neg _ hpos,hdec];rfl
 | false =>
  obtain ⟨hv,rfl⟩:= h2 rfl
  have hpu:= pu_ok ds 0 hd (by rw [← dval_dv];omega)
  rw [← dval_dv] at hpu
  refine ⟨by rw [atoi_pos hd hne,mag hne,hpu];unfold signless;simp only;rw [if_neg (by omega)], ?_⟩
  rw [itoa_nonneg,hdec];rfl
theorem num_no {neg: Bool} {ds: List UInt8} {v: Int} (hd: ∀ c ∈ ds,digit c = true) (h: numOf neg ds = none) (ha: atoiAll (txt neg ds) = .ok v): itoa v ≠ txt neg ds:= by
 intro hi
 cases neg with
 | true =>
  rw [atoi_neg] at ha
  by_cases hne: ds = []
  ·subst hne;simp [parseMag,signed] at ha
  rw [mag hne] at ha
  cases hp: parseUint10 0 ds with
  | ok u =>
   have hu:= pu_is hd hp
   subst hu
   rw [hp] at ha
   unfold signed at ha
   simp only at ha
   split at ha
   ·cases ha
   rename_i hb
   cases ha
   rcases Nat.eq_zero_or_pos (dval ds) with h0 | h0
   ·rw [h0] at hi
    have: itoa (-((0: Nat): Int)) = decDigits 0:= by have:= itoa_nonneg 0;simpa using this
    rw [this,dec_small (by omega)] at hi
    simp [txt] at hi
   ·rw [itoa_neg _ h0] at hi
    have e: decDigits (dval ds) = ds:= by unfold txt at hi;rw [if_pos rfl] at hi;exact (List.cons.inj hi).2
    unfold numOf at h
    rw [if_neg,if_pos rfl,if_pos (by omega)] at h
    ·cases h
    ·rintro (h' | ⟨h',_⟩)
     ·exact hne h'
     ·rw [← e] at h';have:= dec_head h';omega
  | _ => rw [hp] at ha;cases ha
 | false =>
  by_cases hne: ds = []
  ·subst hne;simp [txt,atoiAll] at ha
  rw [atoi_pos hd hne,mag hne] at ha
  cases hp: parseUint10 0 ds with
  | ok u =>
   have hu:= pu_is hd hp
   subst hu
   rw [hp] at ha
   unfold signless at ha
   simp only at ha
   split at ha
   ·cases ha
   rename_i hb
   cases ha
   rw [itoa_nonneg] at hi
   have e: decDigits (dval ds) = ds:= hi
   unfold numOf at h
   rw [if_neg,if_neg (by simp),if_pos (by omega)] at h
   ·cases h
   ·rintro (h' | ⟨h',h'' | h''⟩)
    ·exact hne h'
    ·rw [← e] at h'
     have h0:= dec_head h'
     rw [← e,h0,dec_small (by omega)] at h''
     simp at h''
    ·cases h''
  | _ => rw [hp] at ha;cases ha
theorem mem_sub {l: List UInt8} {i j: Nat} {c: UInt8} (h: c ∈ sub l i j): ∃ k,∃ hk: k < l.length,i ≤ k ∧ k < j ∧ l[k] = c:= by
 unfold sub at h
 obtain ⟨n,hn,rfl⟩:= List.getElem_of_mem h
 rw [List.length_take,List.length_drop] at hn
 refine ⟨i + n,by omega,by omega,by omega, ?_⟩
 simp
theorem run_digits (l: List UInt8) (i: Nat): ∀ c ∈ sub l i (run digit l i),digit c = true:= fun c hc => by
 obtain ⟨k,hk,h1,h2,rfl⟩:= mem_sub hc
 exact run_in h1 h2 hk
theorem sub_cons {l: List UInt8} {i j: Nat} (h: i < l.length) (hj: i < j): sub l i j = l[i]:: sub l (i + 1) j:= by
 unfold sub
 rw [List.drop_eq_getElem_cons h,show j - i = (j - (i + 1)) + 1 by omega,List.take_succ_cons]
theorem isNeg_at {l: List UInt8} {i: Nat} (h: i < l.length): isNeg l i = decide (l[i].toNat = 45):= by simp [isNeg,h]
theorem number_run {l: List UInt8} {i: Nat} (h: i < l.length) (hc: (digit l[i] || decide (l[i].toNat = 45)) = true):
 run digit l (first l i) = run digit l (i + 1) ∧ sub l i (run digit l (i + 1)) = txt (isNeg l i) (sub l (first l i) (run digit l (first l i))):= by
 have hr:= le_run digit l (i + 1)
 rw [isNeg_at h]
 unfold first
 rw [isNeg_at h]
 by_cases h45: l[i].toNat = 45
 ·simp only [h45,decide_true,if_true]
  refine ⟨trivial, ?_⟩
  rw [sub_cons h (by omega),show l[i] = 45 from UInt8.toNat_inj.1 h45];rfl
 ·have hd: digit l[i] = true:= by simpa [h45] using hc
  simp only [h45,decide_false]
  rw [if_neg (by simp),run_step h hd]
  exact ⟨rfl,rfl⟩
end Lx
end Go.Proofs.YtpdmmmdkpipmkaaGreatDoor
namespace Go.Proofs.YtpdmmmdkpipmkaaGreatDoor
namespace Lx
open Go.Lib
theorem tks_inv {l: List UInt8} {i: Nat} {t: Tok} {R: List Tok} (h: tks l i = .ok (t:: R)): i < l.length ∧ ∃ e,one l i = some (t,e) ∧ tks l (skip l e) = .ok R:= by
 rcases Nat.lt_or_ge i l.length with hi | hi
 ·refine ⟨hi, ?_⟩
  cases h3: one l i with
  | none => rw [tks_bad hi h3] at h;cases h
  | some r =>
   obtain ⟨u,j⟩:= r
   by_cases h32: 32 < u.text.length
   ·rw [tks_long hi h3 h32] at h;cases h
   ·rw [tks_cons hi h3 h32] at h
    cases h4: tks l (skip l j) with
    | error x => rw [h4] at h;cases h
    | ok R' => rw [h4] at h;cases h;exact ⟨j,rfl,h4⟩
 ·rw [tks_end hi] at h;cases h
theorem tks_err {l: List UInt8}: ∀ (k i p: Nat) (er: Int),l.length ≤ i + k → tks l i = .error (p,er) → p ≤ l.length ∧ er ≠ 0 ∧ er ≠ 3
 | k,i,p,er,hk,h => by
  rcases Nat.lt_or_ge i l.length with hi | hi
  ·cases h3: one l i with
   | none => rw [tks_bad hi h3] at h;cases h;exact ⟨by omega,by decide,by decide⟩
   | some r =>
    obtain ⟨u,j⟩:= r
    by_cases h32: 32 < u.text.length
    ·rw [tks_long hi h3 h32] at h;cases h;exact ⟨by omega,by decide,by decide⟩
    ·have hj:= one_gt hi h3
     have hs:= le_skip l j
     rw [tks_cons hi h3 h32] at h
     cases h4: tks l (skip l j) with
     | ok R => rw [h4] at h;cases h
     | error x =>
      rw [h4] at h
      cases h
      cases k with
      | zero => omega
      | succ k => exact tks_err k (skip l j) p er (by omega) h4
  ·rw [tks_end hi] at h;cases h
theorem ans_err {l: List UInt8} {p: Nat} {er: Int} (h: ans l = .error (p,er)): p ≤ l.length ∧ er ≠ 0:= by
 unfold ans at h
 split at h
 ·cases h;exact ⟨Nat.zero_le _,by decide⟩
 ·have:= tks_err l.length _ p er (by omega) h
  exact ⟨this.1,this.2.1⟩
theorem tw_all {p: UInt8 → Bool}: ∀ (l: List UInt8),(∀ c ∈ l,p c = true) → l.takeWhile p = l
 | [],_ => rfl
 | c:: r,h => by rw [List.takeWhile_cons_of_pos (h c (by simp)),tw_all r (fun x hx => h x (by simp [hx]))]
theorem sub_tail {l: List UInt8} {i: Nat}: sub l i l.length = l.drop i:= by
 unfold sub;rw [List.take_of_length_le (by rw [List.length_drop];omega)]
end Lx
end Go.Proofs.YtpdmmmdkpipmkaaGreatDoor
namespace Go.Proofs.YtpdmmmdkpipmkaaGreatDoor
namespace Ps
open Lx
abbrev Rz (α: Type):= Except (Nat × Int) (α × List Tok)
def bnd {α β: Type} (r: Rz α) (f: α → List Tok → Rz β): Rz β:=
 match r with
 | .error e => .error e
 | .ok (v,L) => f v L
theorem bnd_ok {α β: Type} (v: α) (L: List Tok) (f: α → List Tok → Rz β): bnd (.ok (v,L)) f = f v L:= rfl
theorem bnd_inv {α β: Type} {r: Rz α} {f: α → List Tok → Rz β} {u: β} {M: List Tok} (h: bnd r f = .ok (u,M)): ∃ v L,r = .ok (v,L) ∧ f v L = .ok (u,M):= by
 cases r with
 | error e => cases h
 | ok x => obtain ⟨v,L⟩:= x;exact ⟨v,L,rfl,h⟩
def tz: Tok:= ⟨0,[],0,0⟩
def hd: List Tok → Tok
 | [] => tz
 | t:: _ => t
def pl (E: Nat): List Tok → Nat
 | [] => E
 | t:: _ => t.pl
def says: List UInt8:= [115,97,121,115]
def to: List UInt8:= [116,111]
def at_: List UInt8:= [97,116]
def isT (k: Int) (s: List UInt8) (t: Tok): Bool:= (t.kind == k) && (t.text == s)
def kept (s: List UInt8): Bool:= (s == says) || (s == to) || (s == at_)
def mayW (t: Tok): Bool:= (t.kind == 1) && !Ps.kept t.text
def mayT (t: Tok): Bool:= (t.kind == 2) || (t.kind == 3) || ((t.kind == 4) && !(t.text == [])) || mayW t
def tm (t: Tok): Tm:= if t.kind = 2 then ⟨t.text,k0⟩ else if t.kind = 3 then ⟨[],⟨true,t.n,[]⟩⟩ else ⟨[],⟨false,0,t.text⟩⟩
def bad (E: Nat) (L: List Tok): Nat × Int:= (pl E L,80)
def many (E: Nat) (L: List Tok): Nat × Int:= (pl E L,if mayT (hd L) = true then 81 else 80)
def need (E: Nat) (k: Int) (s: List UInt8) (L: List Tok): Rz Unit:= if isT k s (hd L) = true then .ok ((),L.tail) else .error (bad E L)
def term (E: Nat) (L: List Tok): Rz Tm:= if mayT (hd L) = true then .ok (tm (hd L),L.tail) else .error (bad E L)
def word (E: Nat) (L: List Tok): Rz (List UInt8):= if mayW (hd L) = true then .ok ((hd L).text,L.tail) else .error (bad E L)
def args (E: Nat): Nat → List Tok → Rz (List Tm)
 | 0,L => .error (many E L)
 | n + 1,L => bnd (term E L) fun t L1 => if isT 5 [44] (hd L1) = true then bnd (args E n L1.tail) fun ts L2 => .ok (t:: ts,L2) else .ok ([t],L1)
def atom (E: Nat) (L: List Tok): Rz (List UInt8 × List Tm):=
 bnd (word E L) fun p L1 => bnd (need E 5 [40] L1) fun _ L2 => if isT 5 [41] (hd L2) = true then .ok ((p,[]),L2.tail) else
  bnd (args E 4 L2) fun ts L3 => bnd (need E 5 [41] L3) fun _ L4 => .ok ((p,ts),L4)
def opt (E: Nat) (s: List UInt8) (L: List Tok): Rz Tm:= if isT 1 s (hd L) = true then term E L.tail else .ok (t0,L)
def said (L: List Tok): Bool:= !mayW (hd L) || isT 1 says (hd L.tail)
def by_ (E: Nat) (L: List Tok): Rz Tm:= if said L = true then bnd (term E L) fun t L1 => bnd (need E 1 says L1) fun _ L2 => .ok (t,L2) else .ok (t0,L)
def lit (E: Nat) (L: List Tok): Rz Lt:= bnd (by_ E L) fun b L1 => bnd (atom E L1) fun p L2 => bnd (opt E at_ L2) fun a L3 => .ok (⟨b,p.1,p.2,a⟩,L3)
def body (E: Nat): Nat → List Tok → Rz (List Lt)
 | 0,L => .error (many E L)
 | n + 1,L => bnd (lit E L) fun t L1 => if isT 5 [44] (hd L1) = true then bnd (body E n L1.tail) fun ts L2 => .ok (t:: ts,L2) else .ok ([t],L1)
def rule (E: Nat) (L: List Tok): Rz Ru:=
 bnd (term E L) fun h L1 => bnd (need E 5 [58] L1) fun _ L2 => bnd (atom E L2) fun p L3 => bnd (opt E to L3) fun t L4 => bnd (need E 5 [58,45] L4) fun _ L5 =>
  bnd (body E 4 L5) fun b L6 => bnd (need E 5 [46] L6) fun _ L7 => .ok (⟨h,p.1,p.2,t,b⟩,L7)
abbrev Rs:= Except (Nat × Int) (List Ru)
def rcons (r: Ru): Rs → Rs
 | .ok l => .ok (r:: l)
 | .error e => .error e
def rthen (x: Rz Ru) (f: List Tok → Rs): Rs:=
 match x with
 | .error e => .error e
 | .ok (r,L) => rcons r (f L)
def rules (E: Nat): Nat → List Tok → Rs
 | 0,[] => .ok []
 | 0,t:: L => .error (many E (t:: L))
 | _ + 1,[] => .ok []
 | n + 1,t:: L => rthen (rule E (t:: L)) (rules E n)
def prog (l: List UInt8): Rs:=
 match ans l with
 | .error e => .error e
 | .ok L => rules l.length 16 L
def rs: Rs → List Ru
 | .ok l => l
 | .error _ => []
def place: Rs → Nat
 | .ok _ => 0
 | .error x => x.1
def err: Rs → Int
 | .ok _ => 0
 | .error x => x.2
theorem rules_nil (E n: Nat): rules E n [] = .ok []:= by cases n <;> rfl
theorem rules_succ {E n: Nat} {L: List Tok} (h: L ≠ []): rules E (n + 1) L = rthen (rule E L) (rules E n):= by
 cases L with
 | nil => exact absurd rfl h
 | cons t L => rfl
theorem hd_ne {k: Int} {s: List UInt8} {L: List Tok} (hk: k ≠ 0) (h: isT k s (hd L) = true): L ≠ []:= by
 intro e;subst e
 simp only [isT,hd,tz,Bool.and_eq_true,beq_iff_eq] at h
 exact hk h.1.symm
theorem mayT_ne {L: List Tok} (h: mayT (hd L) = true): L ≠ []:= by
 intro e;subst e;exact absurd h (by decide)
theorem mayW_ne {L: List Tok} (h: mayW (hd L) = true): L ≠ []:= by
 intro e;subst e;exact absurd h (by decide)
theorem mayW_T {t: Tok} (h: mayW t = true): mayT t = true:= by unfold mayT;rw [h];simp
theorem need_inv {E: Nat} {k: Int} {s: List UInt8} {L L1: List Tok} {u: Unit} (hk: k ≠ 0) (h: need E k s L = .ok (u,L1)): ∃ t,L = t:: L1 ∧ isT k s t = true:= by
 unfold need at h
 split at h
 ·rename_i hi
  cases L with
  | nil => exact absurd rfl (hd_ne hk hi)
  | cons t L => cases h;exact ⟨t,rfl,hi⟩
 ·cases h
theorem term_inv {E: Nat} {L L1: List Tok} {v: Tm} (h: term E L = .ok (v,L1)): ∃ t,L = t:: L1 ∧ mayT t = true ∧ v = tm t:= by
 unfold term at h
 split at h
 ·rename_i hi
  cases L with
  | nil => exact absurd rfl (mayT_ne hi)
  | cons t L => cases h;exact ⟨t,rfl,hi,rfl⟩
 ·cases h
theorem word_inv {E: Nat} {L L1: List Tok} {v: List UInt8} (h: word E L = .ok (v,L1)): ∃ t,L = t:: L1 ∧ mayW t = true ∧ v = t.text:= by
 unfold word at h
 split at h
 ·rename_i hi
  cases L with
  | nil => exact absurd rfl (mayW_ne hi)
  | cons t L => cases h;exact ⟨t,rfl,hi,rfl⟩
 ·cases h
def Pre (L L1: List Tok): Prop:= ∃ A,L = A ++ L1
theorem Pre.refl (L: List Tok): Pre L L:= ⟨[],rfl⟩
theorem Pre.trans {A B C: List Tok} (h: Pre A B) (k: Pre B C): Pre A C:= by
 obtain ⟨x,rfl⟩:= h;obtain ⟨y,rfl⟩:= k;exact ⟨x ++ y,by simp⟩
theorem Pre.cons (t: Tok) (L: List Tok): Pre (t:: L) L:= ⟨[t],rfl⟩
theorem Pre.mem {L L1: List Tok} (h: Pre L L1) {t: Tok} (ht: t ∈ L1): t ∈ L:= by
 obtain ⟨x,rfl⟩:= h;exact List.mem_append_right _ ht
theorem Pre.tail (L: List Tok): Pre L L.tail:= by
 cases L with
 | nil => exact Pre.refl _
 | cons t L => exact Pre.cons t L
theorem need_pre {E: Nat} {k: Int} {s: List UInt8} {L L1: List Tok} {u: Unit} (hk: k ≠ 0) (h: need E k s L = .ok (u,L1)): Pre L L1:= by
 obtain ⟨t,rfl,_⟩:= need_inv hk h;exact Pre.cons t L1
theorem term_pre {E: Nat} {L L1: List Tok} {v: Tm} (h: term E L = .ok (v,L1)): Pre L L1:= by
 obtain ⟨t,rfl,_⟩:= term_inv h;exact Pre.cons t L1
theorem word_pre {E: Nat} {L L1: List Tok} {v: List UInt8} (h: word E L = .ok (v,L1)): Pre L L1:= by
 obtain ⟨t,rfl,_⟩:= word_inv h;exact Pre.cons t L1
theorem args_pre {E: Nat}: ∀ {n: Nat} {L L1: List Tok} {v: List Tm},args E n L = .ok (v,L1) → Pre L L1
 | 0,L,L1,v,h => by cases h
 | n + 1,L,L1,v,h => by
  obtain ⟨t,L2,h1,h2⟩:= bnd_inv h
  split at h2
  ·obtain ⟨ts,L3,h3,h4⟩:= bnd_inv h2
   cases h4
   exact (term_pre h1).trans ((Pre.tail L2).trans (args_pre h3))
  ·cases h2;exact term_pre h1
theorem atom_pre {E: Nat} {L L1: List Tok} {v: List UInt8 × List Tm} (h: atom E L = .ok (v,L1)): Pre L L1:= by
 obtain ⟨p,L2,h1,h⟩:= bnd_inv h
 obtain ⟨_,L3,h2,h⟩:= bnd_inv h
 split at h
 ·cases h;exact (word_pre h1).trans ((need_pre (by decide) h2).trans (Pre.tail _))
 ·obtain ⟨ts,L4,h3,h⟩:= bnd_inv h
  obtain ⟨_,L5,h4,h⟩:= bnd_inv h
  cases h
  exact (word_pre h1).trans ((need_pre (by decide) h2).trans ((args_pre h3).trans (need_pre (by decide) h4)))
theorem opt_pre {E: Nat} {s: List UInt8} {L L1: List Tok} {v: Tm} (h: opt E s L = .ok (v,L1)): Pre L L1:= by
 unfold opt at h
 split at h
 ·exact (Pre.tail L).trans (term_pre h)
 ·cases h;exact Pre.refl _
theorem by_pre {E: Nat} {L L1: List Tok} {v: Tm} (h: by_ E L = .ok (v,L1)): Pre L L1:= by
 unfold by_ at h
 split at h
 ·obtain ⟨p,L2,h1,h⟩:= bnd_inv h
  obtain ⟨_,L3,h2,h⟩:= bnd_inv h
  cases h
  exact (term_pre h1).trans (need_pre (by decide) h2)
 ·cases h;exact Pre.refl _
theorem lit_pre {E: Nat} {L L1: List Tok} {v: Lt} (h: lit E L = .ok (v,L1)): Pre L L1:= by
 obtain ⟨b,L2,h1,h⟩:= bnd_inv h
 obtain ⟨p,L3,h2,h⟩:= bnd_inv h
 obtain ⟨a,L4,h3,h⟩:= bnd_inv h
 cases h
 exact (by_pre h1).trans ((atom_pre h2).trans (opt_pre h3))
theorem body_pre {E: Nat}: ∀ {n: Nat} {L L1: List Tok} {v: List Lt},body E n L = .ok (v,L1) → Pre L L1
 | 0,L,L1,v,h => by cases h
 | n + 1,L,L1,v,h => by
  obtain ⟨t,L2,h1,h2⟩:= bnd_inv h
  split at h2
  ·obtain ⟨ts,L3,h3,h4⟩:= bnd_inv h2
   cases h4
   exact (lit_pre h1).trans ((Pre.tail L2).trans (body_pre h3))
  ·cases h2;exact lit_pre h1
theorem rule_inv {E: Nat} {L L1: List Tok} {r: Ru} (h: rule E L = .ok (r,L1)): ∃ h0 L2 L3 p L4 t L5 L6 b L7,term E L = .ok (h0,L2) ∧ need E 5 [58] L2 = .ok ((),L3) ∧ atom E L3 = .ok (p,L4) ∧ opt E to L4 = .ok (t,L5) ∧ need E 5 [58,45] L5 = .ok ((),L6) ∧ body E 4 L6 = .ok (b,L7) ∧ need E 5 [46] L7 = .ok ((),L1) ∧ r = ⟨h0,p.1,p.2,t,b⟩:= by
 obtain ⟨h0,L2,h1,h⟩:= bnd_inv h
 obtain ⟨_,L3,h2,h⟩:= bnd_inv h
 obtain ⟨p,L4,h3,h⟩:= bnd_inv h
 obtain ⟨t,L5,h4,h⟩:= bnd_inv h
 obtain ⟨_,L6,h5,h⟩:= bnd_inv h
 obtain ⟨b,L7,h6,h⟩:= bnd_inv h
 obtain ⟨_,L8,h7,h⟩:= bnd_inv h
 cases h
 exact ⟨h0,L2,L3,p,L4,t,L5,L6,b,L7,h1,h2,h3,h4,h5,h6,h7,rfl⟩
theorem rule_pre {E: Nat} {L L1: List Tok} {r: Ru} (h: rule E L = .ok (r,L1)): Pre L L1:= by
 obtain ⟨h0,L2,L3,p,L4,t,L5,L6,b,L7,h1,h2,h3,h4,h5,h6,h7,_⟩:= rule_inv h
 exact (term_pre h1).trans ((need_pre (by decide) h2).trans ((atom_pre h3).trans ((opt_pre h4).trans ((need_pre (by decide) h5).trans ((body_pre h6).trans (need_pre (by decide) h7))))))
def Told (E: Nat) (L: List Tok) (e: Nat × Int): Prop:= (e.1 = E ∨ ∃ t ∈ L,t.pl = e.1) ∧ (e.2 = 80 ∨ e.2 = 81)
end Ps
end Go.Proofs.YtpdmmmdkpipmkaaGreatDoor
namespace Go.Proofs.YtpdmmmdkpipmkaaGreatDoor
namespace Ps
open Lx
def rprep (l: List Ru): Rs → Rs
 | .ok m => .ok (l ++ m)
 | .error e => .error e
theorem rprep_nil (x: Rs): rprep [] x = x:= by cases x <;> rfl
theorem rprep_snoc (r: Ru) (l: List Ru) (x: Rs): rprep l (rcons r x) = rprep (l ++ [r]) x:= by cases x <;> simp [rprep,rcons]
def strip (t: Tok): Tok:= ⟨t.kind,t.text,t.n,0⟩
def Sm (L L': List Tok): Prop:= L.map strip = L'.map strip
def Rel {α: Type}: Rz α → Rz α → Prop
 | .ok (v,L),.ok (v',L') => v = v' ∧ Sm L L'
 | .error x,.error x' => x.2 = x'.2
 | _,_ => False
def RelS: Rs → Rs → Prop
 | .ok l,.ok l' => l = l'
 | .error x,.error x' => x.2 = x'.2
 | _,_ => False
def CutS {α: Type} (E: Nat) (B: List Tok) (v: α) (L1: List Tok) (r: Rz α): Prop:= (∃ A1,L1 = A1 ++ B ∧ r = .ok (v,A1)) ∨ r = .error (E,80)
def Dry {α: Type} (E: Nat) (r: Rz α): Prop:= (∃ v,r = .ok (v,[])) ∨ r = .error (E,80)
def Cut {α: Type} (E: Nat) (B: List Tok) (v: α) (L1: List Tok) (r: Rz α): Prop:= (∃ A1,A1 ≠ [] ∧ L1 = A1 ++ B ∧ r = .ok (v,A1)) ∨ Dry E r
end Ps
end Go.Proofs.YtpdmmmdkpipmkaaGreatDoor
namespace Go.Proofs.YtpdmmmdkpipmkaaGreatDoor
namespace Lx
open Go.Lib
theorem tks_short {l: List UInt8} {i e: Nat} {t: Tok} {R: List Tok} (h: tks l i = .ok (t:: R)) (ho: one l i = some (t,e)) (hi: i < l.length): ¬ 32 < t.text.length:= fun h32 => by
 rw [tks_long hi ho h32] at h;cases h
def en (n: Bool) (x: List UInt8): Bool:= x.foldl note n
theorem one_first {l: List UInt8} {i e: Nat} {t: Tok} (hi: i < l.length) (h: one l i = some (t,e)): note false l[i] = false ∧ blank l[i] = false:= by
 rw [one_at hi] at h
 unfold oneC at h
 generalize l[i] = c at h
 have key: c.toNat ≠ 37 ∧ c.toNat ≠ 32 ∧ c.toNat ≠ 9 ∧ c.toNat ≠ 10 ∧ c.toNat ≠ 13:= by
  split at h
  ·rename_i hc;simp only [small,Bool.and_eq_true,decide_eq_true_eq] at hc;omega
  split at h
  ·rename_i hc;simp only [great,Bool.and_eq_true,decide_eq_true_eq] at hc;omega
  split at h
  ·rename_i hc;simp only [digit,Bool.or_eq_true,Bool.and_eq_true,decide_eq_true_eq] at hc;omega
  split at h
  ·rename_i hc;omega
  ·unfold sign at h
   split at h
   ·rename_i hc;omega
   split at h
   ·rename_i hc;simp only [signs,Bool.or_eq_true,decide_eq_true_eq] at hc;omega
   ·cases h
 refine ⟨?_, ?_⟩
 ·unfold note;rw [if_neg key.1,if_neg key.2.2.2.1]
 ·simp [blank,key]
def wide (l m: List UInt8): Nat → List Tok → List UInt8
 | f,[] => l.drop f
 | f,t:: L => sub l f t.pl ++ (m ++ wide l m t.pl L)
end Lx
namespace Ps
open Lx
end Ps
end Go.Proofs.YtpdmmmdkpipmkaaGreatDoor
namespace Go.Proofs.YtpdmmmdkpipmkaaGreatDoor
namespace Sh
open Lx Ps
def namedB (p: UInt8 → Bool) (s: List UInt8): Bool:= decide (1 ≤ s.length) && decide (s.length ≤ 32) && (match s with | [] => false | c:: _ => p c) && s.all inner
def wordB (s: List UInt8): Bool:= namedB small s && !Ps.kept s
def zk (k: K): Bool:= !k.num && decide (k.n = 0) && k.s.isEmpty
def plainB (s: List UInt8): Bool:= decide (1 ≤ s.length) && decide (s.length ≤ 32) && s.all plain
def termS (t: Tm): Option (List UInt8):=
 if t.v ≠ [] then (if (zk t.k && namedB great t.v) = true then some t.v else none)
 else if t.k.num = true then (if t.k.s = [] then some (Go.Lib.itoa t.k.n) else none)
 else if t.k.n = 0 ∧ plainB t.k.s = true then (if wordB t.k.s = true then some t.k.s else some (34:: (t.k.s ++ [34]))) else none
def noneT (t: Tm): Bool:= t.v.isEmpty && zk t.k
def maybeS (a: List UInt8) (t: Tm) (b: List UInt8): Option (List UInt8):= if noneT t = true then some [] else (termS t).map fun s => a ++ (s ++ b)
def argsS: List Tm → Option (List UInt8)
 | [] => some []
 | [t] => termS t
 | t:: u:: r => (termS t).bind fun s => (argsS (u:: r)).map fun x => s ++ (44:: 32:: x)
def atomS (p: List UInt8) (ts: List Tm): Option (List UInt8):= if wordB p = true ∧ ts.length ≤ 4 then (argsS ts).map fun s => p ++ (40:: (s ++ [41])) else none
def litS (l: Lt): Option (List UInt8):=
 (maybeS [] l.by_ [32,115,97,121,115,32]).bind fun b => (atomS l.pred l.args).bind fun x => (maybeS [32,97,116,32] l.at_ []).map fun a => b ++ (x ++ a)
def litsS: List Lt → Option (List UInt8)
 | [] => some []
 | [l] => litS l
 | l:: u:: r => (litS l).bind fun s => (litsS (u:: r)).map fun x => s ++ (44:: 32:: x)
def ruleS (r: Ru): Option (List UInt8):=
 if 1 ≤ r.body.length ∧ r.body.length ≤ 4 then
  (termS r.home).bind fun h => (atomS r.pred r.args).bind fun x => (maybeS [32,116,111,32] r.to_ []).bind fun t => (litsS r.body).map fun b =>
    h ++ (58:: 32:: (x ++ (t ++ (32:: 58:: 45:: 32:: (b ++ [46])))))
 else none
def allS: List Ru → Option (List UInt8)
 | [] => some []
 | r:: l => (ruleS r).bind fun s => (allS l).map fun x => s ++ (10:: x)
def progS (l: List Ru): Except Int (List UInt8):=
 if 16 < l.length then .error 81 else match allS l with
 | none => .error 100
 | some s => if 4096 < s.length then .error 3 else .ok s
def wd (s: List UInt8): Tok:= ⟨1,s,0,0⟩
def KIn (t: Tm): Prop:= -9223372036854775808 ≤ t.k.n ∧ t.k.n ≤ 9223372036854775807
def LIn (l: Lt): Prop:= KIn l.by_ ∧ (∀ t ∈ l.args,KIn t) ∧ KIn l.at_
def RIn (r: Ru): Prop:= KIn r.home ∧ (∀ t ∈ r.args,KIn t) ∧ KIn r.to_ ∧ ∀ l ∈ r.body,LIn l
theorem run_all {p: UInt8 → Bool} {s: List UInt8} {i: Nat} (h: ∀ c ∈ s.drop i,p c = true) (hi: i ≤ s.length): run p s i = s.length:= by
 unfold run;rw [tw_all _ h,List.length_drop];omega
theorem one_word {s: List UInt8} (h: namedB small s = true): one s 0 = some (⟨1,s,0,0⟩,s.length):= by
 unfold namedB at h
 cases s with
 | nil => simp at h
 | cons c r =>
  simp only [Bool.and_eq_true,List.all_eq_true] at h
  rw [one_at (by simp)]
  show oneC (c:: r) 0 c = _
  unfold oneC
  rw [if_pos h.1.2]
  unfold Lx.word
  rw [run_all (fun d hd => h.2 d (by simpa using hd)) (Nat.zero_le _),sub_tail];rfl
theorem great_small {c: UInt8} (h: great c = true): ¬ small c = true:= by
 simp only [great,small,Bool.and_eq_true,decide_eq_true_eq] at *;omega
theorem one_var {s: List UInt8} (h: namedB great s = true): one s 0 = some (⟨2,s,0,0⟩,s.length):= by
 unfold namedB at h
 cases s with
 | nil => simp at h
 | cons c r =>
  simp only [Bool.and_eq_true,List.all_eq_true] at h
  rw [one_at (by simp)]
  show oneC (c:: r) 0 c = _
  unfold oneC
  rw [if_neg (great_small h.1.2),if_pos h.1.2]
  unfold Lx.word
  rw [run_all (fun d hd => h.2 d (by simpa using hd)) (Nat.zero_le _),sub_tail];rfl
theorem one_quote {s: List UInt8} (h: ∀ c ∈ s,plain c = true): one (34:: (s ++ [34])) 0 = some (⟨4,s,0,0⟩,(34:: (s ++ [34])).length):= by
 rw [one_at (by simp)]
 show oneC (34:: (s ++ [34])) 0 34 = _
 unfold oneC
 rw [if_neg (by decide),if_neg (by decide),if_neg (by decide),if_pos (by decide)]
 have hr: run plain (34:: (s ++ [34])) 1 = s.length + 1:= by
  unfold run
  show 1 + ((s ++ [34]).takeWhile plain).length = _
  rw [List.takeWhile_append_of_pos h]
  have: List.takeWhile plain [34] = []:= by decide
  rw [this];simp;omega
 unfold quote
 rw [hr]
 have e1: (34:: (s ++ [34]))[s.length + 1]?.map (·.toNat) = some 34:= by simp
 rw [if_pos e1]
 have e2: sub (34:: (s ++ [34])) (0 + 1) (s.length + 1) = s:= by unfold sub;simp
 rw [e2];simp
theorem named_len {p: UInt8 → Bool} {s: List UInt8} (h: namedB p s = true): 0 < s.length ∧ s.length ≤ 32:= by
 unfold namedB at h
 simp only [Bool.and_eq_true,decide_eq_true_eq] at h
 exact ⟨h.1.1.1,h.1.1.2⟩
theorem word_named {s: List UInt8} (h: wordB s = true): namedB small s = true ∧ Ps.kept s = false:= by
 unfold wordB at h
 simpa using h
end Sh
end Go.Proofs.YtpdmmmdkpipmkaaGreatDoor
namespace Go.Proofs.YtpdmmmdkpipmkaaGreatDoor
namespace Sh
open Lx Ps
end Sh
end Go.Proofs.YtpdmmmdkpipmkaaGreatDoor
namespace Go.Proofs.YtpdmmmdkpipmkaaGreatDoor
namespace Sh
open Lx Ps
structure TokOk (t: Tok): Prop where
 w: t.kind = 1 → namedB small t.text = true
 v: t.kind = 2 → namedB great t.text = true
 n: t.kind = 3 → -9223372036854775808 ≤ t.n ∧ t.n ≤ 9223372036854775807
 q: t.kind = 4 → t.text.length ≤ 32 ∧ ∀ c ∈ t.text,plain c = true
theorem run_mem {p: UInt8 → Bool} {l: List UInt8} {i: Nat}: ∀ c ∈ sub l i (run p l i),p c = true:= fun c hc => by
 obtain ⟨k,hk,h1,h2,rfl⟩:= mem_sub hc
 exact run_in h1 h2 hk
theorem named_run {p: UInt8 → Bool} {l: List UInt8} {i: Nat} (hi: i < l.length) (hp: p l[i] = true) (hn: inner l[i] = true) (h32: (sub l i (run inner l i)).length ≤ 32): namedB p (sub l i (run inner l i)) = true:= by
 have hr: i < run inner l i:= by
  rw [run_step hi hn];exact Nat.lt_of_lt_of_le (Nat.lt_succ_self i) (le_run _ _ _)
 have ha:= run_mem (p:= inner) (l:= l) (i:= i)
 have hc:= sub_cons hi hr
 unfold namedB
 simp only [Bool.and_eq_true,decide_eq_true_eq,List.all_eq_true]
 refine ⟨⟨⟨?_,h32⟩, ?_⟩,ha⟩
 ·rw [hc];simp
 ·rw [hc];exact hp
theorem one_ok {l: List UInt8} {i e: Nat} {t: Tok} (hi: i < l.length) (h: one l i = some (t,e)) (hl: ¬ 32 < t.text.length): TokOk t:= by
 rw [one_at hi] at h
 unfold oneC at h
 split at h
 ·rename_i hc
  unfold Lx.word at h
  cases h
  exact ⟨fun _ => named_run hi hc (small_inner hc) (by simpa using hl),fun k => by simp at k,fun k => by simp at k,fun k => by simp at k⟩
 split at h
 ·rename_i hc
  unfold Lx.word at h
  cases h
  exact ⟨fun k => by simp at k,fun _ => named_run hi hc (great_inner hc) (by simpa using hl),fun k => by simp at k,fun k => by simp at k⟩
 split at h
 ·unfold number at h
  rw [Option.map_eq_some_iff] at h
  obtain ⟨v,hv,h⟩:= h
  cases h
  have hv:= numOf_some hv
  refine ⟨fun k => by simp at k,fun k => by simp at k,fun _ => ?_,fun k => by simp at k⟩
  show -9223372036854775808 ≤ v ∧ v ≤ 9223372036854775807
  cases hb: isNeg l i with
  | true => have:= hv.2.2.1 hb;omega
  | false => have:= hv.2.2.2 hb;omega
 split at h
 ·unfold quote at h
  split at h
  ·cases h
   exact ⟨fun k => by simp at k,fun k => by simp at k,fun k => by simp at k,fun _ => ⟨by simpa using hl,run_mem⟩⟩
  ·cases h
 ·unfold sign at h
  split at h
  ·cases h
   exact ⟨fun k => by simp at k,fun k => by simp at k,fun k => by simp at k,fun k => by simp at k⟩
  split at h
  ·cases h
   exact ⟨fun k => by simp at k,fun k => by simp at k,fun k => by simp at k,fun k => by simp at k⟩
  ·cases h
theorem tks_ok {l: List UInt8}: ∀ (M: List Tok) (i: Nat),tks l i = .ok M → ∀ t ∈ M,TokOk t
 | [],_,_,t,ht => by simp at ht
 | u:: R,i,h,t,ht => by
  obtain ⟨hi,e,ho,hr⟩:= tks_inv h
  rcases List.mem_cons.1 ht with rfl | ht
  ·exact one_ok hi ho (tks_short h ho hi)
  ·exact tks_ok R _ hr t ht
def Ok (L: List Tok): Prop:= ∀ t ∈ L,TokOk t
theorem Ok.pre {L L1: List Tok} (h: Ok L) (p: Pre L L1): Ok L1:= fun t ht => h t (p.mem ht)
def G (t: Tm): Prop:= KIn t ∧ ∃ s,termS t = some s
theorem inner_plain {c: UInt8} (h: inner c = true): plain c = true:= by
 simp only [inner,small,great,digit,plain,Bool.or_eq_true,Bool.and_eq_true,decide_eq_true_eq,Bool.not_eq_true',decide_eq_false_iff_not] at *
 omega
theorem named_plain {p: UInt8 → Bool} {s: List UInt8} (h: namedB p s = true): plainB s = true:= by
 have h1:= named_len h
 unfold namedB at h
 unfold plainB
 simp only [Bool.and_eq_true,decide_eq_true_eq,List.all_eq_true] at *
 exact ⟨⟨h1.1,h1.2⟩,fun c hc => inner_plain (h.2 c hc)⟩
theorem zero_in: (-9223372036854775808: Int) ≤ 0 ∧ (0: Int) ≤ 9223372036854775807:= by decide
theorem plain_good {s: List UInt8} (h: plainB s = true): G ⟨[],⟨false,0,s⟩⟩:= by
 refine ⟨zero_in, ?_⟩
 unfold termS
 dsimp only
 rw [if_neg (by simp),if_neg (by simp),if_pos ⟨rfl,h⟩]
 split
 ·exact ⟨_,rfl⟩
 ·exact ⟨_,rfl⟩
theorem tok_good {t: Tok} (h: TokOk t) (hm: mayT t = true): G (tm t):= by
 unfold tm
 by_cases h2: t.kind = 2
 ·rw [if_pos h2]
  have hn:= h.v h2
  have hl:= named_len hn
  refine ⟨zero_in,t.text, ?_⟩
  unfold termS
  dsimp only
  rw [if_pos (fun e => by rw [e] at hl;simp at hl),if_pos (by rw [hn];decide)]
 rw [if_neg h2]
 by_cases h3: t.kind = 3
 ·rw [if_pos h3]
  exact ⟨h.n h3,Go.Lib.itoa t.n,rfl⟩
 rw [if_neg h3]
 apply plain_good
 unfold mayT at hm
 simp only [Bool.or_eq_true,Bool.and_eq_true,beq_iff_eq,h2,h3,false_or,Bool.not_eq_true',beq_eq_false_iff_ne] at hm
 rcases hm with ⟨h4,hne⟩ | hw
 ·have hq:= h.q h4
  unfold plainB
  simp only [Bool.and_eq_true,decide_eq_true_eq,List.all_eq_true]
  exact ⟨⟨List.length_pos_iff.2 hne,hq.1⟩,hq.2⟩
 ·unfold mayW at hw
  simp only [Bool.and_eq_true,beq_iff_eq] at hw
  exact named_plain (h.w hw.1)
theorem term_good {E: Nat} {L L1: List Tok} {v: Tm} (hL: Ok L) (h: term E L = .ok (v,L1)): G v:= by
 obtain ⟨t,rfl,hm,rfl⟩:= term_inv h
 exact tok_good (hL t (by simp)) hm
theorem args_good {E: Nat}: ∀ {n: Nat} {L L1: List Tok} {v: List Tm},Ok L → args E n L = .ok (v,L1) → (∀ t ∈ v,G t) ∧ v.length ≤ n
 | 0,L,L1,v,_,h => by cases h
 | n + 1,L,L1,v,hL,h => by
  obtain ⟨t,L2,h1,h2⟩:= bnd_inv h
  have g:= term_good hL h1
  split at h2
  ·obtain ⟨ts,L3,h3,h4⟩:= bnd_inv h2
   cases h4
   have k:= args_good (hL.pre ((term_pre h1).trans (Pre.tail L2))) h3
   refine ⟨fun u hu => ?_,by simp only [List.length_cons];omega⟩
   rcases List.mem_cons.1 hu with rfl | hu
   ·exact g
   ·exact k.1 u hu
  ·cases h2
   exact ⟨fun u hu => by simp at hu;subst hu;exact g,by simp⟩
theorem argsS_ok: ∀ {ts: List Tm},(∀ t ∈ ts,G t) → ∃ s,argsS ts = some s
 | [],_ => ⟨[],rfl⟩
 | [t],h => (h t (by simp)).2
 | t:: u:: r,h => by
  obtain ⟨a,ha⟩:= (h t (by simp)).2
  obtain ⟨x,hx⟩:= argsS_ok (ts:= u:: r) (fun v hv => h v (List.mem_cons_of_mem _ hv))
  exact ⟨_,by rw [argsS,ha,Option.bind_some,hx,Option.map_some]⟩
theorem word_good {E: Nat} {L L1: List Tok} {v: List UInt8} (hL: Ok L) (h: Ps.word E L = .ok (v,L1)): wordB v = true:= by
 obtain ⟨t,rfl,hm,rfl⟩:= word_inv h
 unfold mayW at hm
 simp only [Bool.and_eq_true,beq_iff_eq] at hm
 unfold wordB
 rw [(hL t (by simp)).w hm.1,hm.2];rfl
theorem atom_good {E: Nat} {L L1: List Tok} {v: List UInt8 × List Tm} (hL: Ok L) (h: atom E L = .ok (v,L1)): (∀ t ∈ v.2,KIn t) ∧ ∃ s,atomS v.1 v.2 = some s:= by
 obtain ⟨p,L2,h1,h⟩:= bnd_inv h
 have hw:= word_good hL h1
 have hL2:= hL.pre (word_pre h1)
 obtain ⟨_,L3,h2,h⟩:= bnd_inv h
 have hL3:= hL2.pre (need_pre (by decide) h2)
 split at h
 ·cases h
  refine ⟨fun t ht => by simp at ht,p ++ [40,41], ?_⟩
  unfold atomS
  rw [if_pos ⟨hw,by simp⟩];rfl
 ·obtain ⟨ts,L4,h3,h⟩:= bnd_inv h
  obtain ⟨_,L5,h4,h⟩:= bnd_inv h
  cases h
  have g:= args_good hL3 h3
  obtain ⟨x,hx⟩:= argsS_ok g.1
  refine ⟨fun t ht => (g.1 t ht).1,p ++ (40:: (x ++ [41])), ?_⟩
  unfold atomS
  rw [if_pos ⟨hw,g.2⟩,hx];rfl
def MG (t: Tm): Prop:= KIn t ∧ ∀ a b,∃ s,maybeS a t b = some s
theorem G.mg {t: Tm} (h: G t): MG t:= by
 refine ⟨h.1,fun a b => ?_⟩
 obtain ⟨s,hs⟩:= h.2
 unfold maybeS
 split
 ·exact ⟨_,rfl⟩
 ·exact ⟨_,by rw [hs];rfl⟩
theorem t0_mg: MG t0:= ⟨⟨by decide,by decide⟩,fun a b => ⟨[],rfl⟩⟩
theorem opt_good {E: Nat} {s: List UInt8} {L L1: List Tok} {v: Tm} (hL: Ok L) (h: opt E s L = .ok (v,L1)): MG v:= by
 unfold opt at h
 split at h
 ·exact (term_good (hL.pre (Pre.tail L)) h).mg
 ·cases h;exact t0_mg
theorem by_good {E: Nat} {L L1: List Tok} {v: Tm} (hL: Ok L) (h: by_ E L = .ok (v,L1)): MG v:= by
 unfold by_ at h
 split at h
 ·obtain ⟨p,L2,h1,h⟩:= bnd_inv h
  obtain ⟨_,L3,h2,h⟩:= bnd_inv h
  cases h
  exact (term_good hL h1).mg
 ·cases h;exact t0_mg
theorem lit_good {E: Nat} {L L1: List Tok} {v: Lt} (hL: Ok L) (h: lit E L = .ok (v,L1)): LIn v ∧ ∃ s,litS v = some s:= by
 obtain ⟨b,L2,h1,h⟩:= bnd_inv h
 obtain ⟨p,L3,h2,h⟩:= bnd_inv h
 obtain ⟨a,L4,h3,h⟩:= bnd_inv h
 cases h
 have hL2:= hL.pre (by_pre h1)
 have hL3:= hL2.pre (atom_pre h2)
 have g1:= by_good hL h1
 have g2:= atom_good hL2 h2
 have g3:= opt_good hL3 h3
 obtain ⟨x,hx⟩:= g1.2 [] [32,115,97,121,115,32]
 obtain ⟨y,hy⟩:= g2.2
 obtain ⟨z,hz⟩:= g3.2 [32,97,116,32] []
 refine ⟨⟨g1.1,g2.1,g3.1⟩,x ++ (y ++ z), ?_⟩
 unfold litS
 dsimp only
 rw [hx,Option.bind_some,hy,Option.bind_some,hz,Option.map_some]
theorem body_good {E: Nat}: ∀ {n: Nat} {L L1: List Tok} {v: List Lt},Ok L → body E n L = .ok (v,L1) → (∀ t ∈ v,LIn t ∧ ∃ s,litS t = some s) ∧ 1 ≤ v.length ∧ v.length ≤ n
 | 0,L,L1,v,_,h => by cases h
 | n + 1,L,L1,v,hL,h => by
  obtain ⟨t,L2,h1,h2⟩:= bnd_inv h
  have g:= lit_good hL h1
  split at h2
  ·obtain ⟨ts,L3,h3,h4⟩:= bnd_inv h2
   cases h4
   have k:= body_good (hL.pre ((lit_pre h1).trans (Pre.tail L2))) h3
   refine ⟨fun u hu => ?_,by simp,by simp only [List.length_cons];omega⟩
   rcases List.mem_cons.1 hu with rfl | hu
   ·exact g
   ·exact k.1 u hu
  ·cases h2
   exact ⟨fun u hu => by simp at hu;subst hu;exact g,by simp,by simp⟩
theorem litsS_ok: ∀ {ts: List Lt},(∀ t ∈ ts,LIn t ∧ ∃ s,litS t = some s) → ∃ s,litsS ts = some s
 | [],_ => ⟨[],rfl⟩
 | [t],h => (h t (by simp)).2
 | t:: u:: r,h => by
  obtain ⟨a,ha⟩:= (h t (by simp)).2
  obtain ⟨x,hx⟩:= litsS_ok (ts:= u:: r) (fun v hv => h v (List.mem_cons_of_mem _ hv))
  exact ⟨_,by rw [litsS,ha,Option.bind_some,hx,Option.map_some]⟩
theorem rule_good {E: Nat} {L L1: List Tok} {r: Ru} (hL: Ok L) (h: rule E L = .ok (r,L1)): RIn r ∧ ∃ s,ruleS r = some s:= by
 obtain ⟨h0,L2,L3,p,L4,t,L5,L6,b,L7,h1,h2,h3,h4,h5,h6,h7,rfl⟩:= rule_inv h
 have k2:= hL.pre (term_pre h1)
 have k3:= k2.pre (need_pre (by decide) h2)
 have k4:= k3.pre (atom_pre h3)
 have k5:= k4.pre (opt_pre h4)
 have k6:= k5.pre (need_pre (by decide) h5)
 have g1:= term_good hL h1
 have g3:= atom_good k3 h3
 have g4:= opt_good k4 h4
 have g6:= body_good k6 h6
 obtain ⟨x,hx⟩:= g1.2
 obtain ⟨y,hy⟩:= g3.2
 obtain ⟨z,hz⟩:= g4.2 [32,116,111,32] []
 obtain ⟨u,hu⟩:= litsS_ok g6.1
 refine ⟨⟨g1.1,g3.1,g4.1,fun l hl => (g6.1 l hl).1⟩, ?_⟩
 unfold ruleS
 dsimp only
 rw [if_pos g6.2,hx,Option.bind_some,hy,Option.bind_some,hz,Option.bind_some,hu,Option.map_some]
 exact ⟨_,rfl⟩
theorem rules_good {E: Nat}: ∀ {n: Nat} {L: List Tok} {l: List Ru},Ok L → rules E n L = .ok l → (∀ r ∈ l,RIn r ∧ ∃ s,ruleS r = some s) ∧ l.length ≤ n
 | n,[],l,_,h => by
  rw [rules_nil] at h;cases h
  exact ⟨fun r hr => by simp at hr,Nat.zero_le _⟩
 | 0,t:: L,l,_,h => by cases h
 | n + 1,t:: L,l,hL,h => by
  rw [rules_succ (by simp)] at h
  cases hr: rule E (t:: L) with
  | error e => rw [hr] at h;cases h
  | ok x =>
   obtain ⟨r,L1⟩:= x
   rw [hr] at h
   change rcons r (rules E n L1) = .ok l at h
   cases hq: rules E n L1 with
   | error e => rw [hq] at h;cases h
   | ok m =>
    rw [hq] at h
    cases h
    have k:= rules_good (hL.pre (rule_pre hr)) hq
    refine ⟨fun u hu => ?_,by simp only [List.length_cons];omega⟩
    rcases List.mem_cons.1 hu with rfl | hu
    ·exact rule_good hL hr
    ·exact k.1 u hu
theorem allS_ok: ∀ {l: List Ru},(∀ r ∈ l,RIn r ∧ ∃ s,ruleS r = some s) → ∃ s,allS l = some s
 | [],_ => ⟨[],rfl⟩
 | r:: l,h => by
  obtain ⟨a,ha⟩:= (h r (by simp)).2
  obtain ⟨x,hx⟩:= allS_ok (l:= l) (fun v hv => h v (List.mem_cons_of_mem _ hv))
  exact ⟨_,by rw [allS,ha,Option.bind_some,hx,Option.map_some]⟩
theorem prog_good {m: List UInt8} {l: List Ru} (h: prog m = .ok l): (∀ r ∈ l,RIn r) ∧ ((∃ s,progS l = .ok s) ∨ progS l = .error 3):= by
 unfold prog at h
 split at h
 ·cases h
 ·rename_i L hL
  have ho: Ok L:= by
   unfold ans at hL
   split at hL
   ·cases hL
   ·exact tks_ok L _ hL
  have g:= rules_good ho h
  refine ⟨fun r hr => (g.1 r hr).1, ?_⟩
  obtain ⟨s,hs⟩:= allS_ok g.1
  unfold progS
  rw [if_neg (by omega),hs]
  dsimp only
  split
  ·exact .inr rfl
  ·exact .inl ⟨_,rfl⟩
end Sh
end Go.Proofs.YtpdmmmdkpipmkaaGreatDoor
namespace Go.Proofs.YtpdmmmdkpipmkaaGreatDoor
namespace Sh
open Lx Ps
def isTok (l: List UInt8) (k: Int) (own: List UInt8): Bool:=
 match toks (ans l) with
 | [t] => (t.kind == k) && (t.text == own)
 | _ => false
theorem ans_one {s: List UInt8} {t: Tok} (h: one s 0 = some (t,s.length)) (h0: 0 < s.length) (hl: t.text.length ≤ 32) (hs: s.length ≤ 4096): ans s = .ok [t]:= by
 have hf:= one_first h0 h
 have e0: skip s 0 = 0:= by unfold skip;exact skipN_stop h0 hf.1 hf.2
 have e1: skip s s.length = s.length:= by unfold skip;exact skipN_end (Nat.le_refl _)
 unfold ans
 rw [if_neg (by omega),e0,tks_cons h0 h (by omega),e1,tks_end (Nat.le_refl _)];rfl
theorem isTok_inv {l own: List UInt8} {k: Int} (h: isTok l k own = true): ∃ t,t.kind = k ∧ t.text = own ∧ TokOk t:= by
 unfold isTok at h
 cases ha: ans l with
 | error x => rw [ha] at h;simp [toks] at h
 | ok L =>
  rw [ha] at h
  simp only [toks] at h
  split at h
  ·rename_i t
   simp only [Bool.and_eq_true,beq_iff_eq] at h
   refine ⟨t,h.1,h.2, ?_⟩
   unfold ans at ha
   split at ha
   ·cases ha
   ·exact tks_ok _ _ ha t (by simp)
  ·cases h
theorem isTok_one {s own: List UInt8} {k: Int} {t: Tok} (h: ans s = .ok [t]) (hk: t.kind = k) (ht: t.text = own): isTok s k own = true:= by
 unfold isTok;rw [h];simp [toks,hk,ht]
theorem bool_eq {a b: Bool} (h1: a = true → b = true) (h2: b = true → a = true): a = b:= by
 cases a <;> cases b <;> simp_all
theorem tok_word (s: List UInt8): isTok s 1 s = namedB small s:= by
 refine bool_eq (fun h => ?_) (fun h => ?_)
 ·obtain ⟨t,h1,h2,h3⟩:= isTok_inv h
  have:= h3.w h1;rwa [h2] at this
 ·have hn:= named_len h
  exact isTok_one (ans_one (one_word h) hn.1 hn.2 (by omega)) rfl rfl
theorem tok_var (s: List UInt8): isTok s 2 s = namedB great s:= by
 refine bool_eq (fun h => ?_) (fun h => ?_)
 ·obtain ⟨t,h1,h2,h3⟩:= isTok_inv h
  have:= h3.v h1;rwa [h2] at this
 ·have hn:= named_len h
  exact isTok_one (ans_one (one_var h) hn.1 hn.2 (by omega)) rfl rfl
theorem tok_quote {s: List UInt8} (hs: s.length ≤ 32): isTok (34:: (s ++ [34])) 4 s = s.all plain:= by
 refine bool_eq (fun h => ?_) (fun h => ?_)
 ·obtain ⟨t,h1,h2,h3⟩:= isTok_inv h
  have:= (h3.q h1).2;rw [h2] at this
  simpa using this
 ·rw [List.all_eq_true] at h
  exact isTok_one (ans_one (one_quote h) (by simp) hs (by simp;omega)) rfl rfl
def canT (t: Tm): Bool:= (termS t).isSome
def canM (t: Tm): Bool:= noneT t || canT t
def canA (p: List UInt8) (ts: List Tm): Bool:= wordB p && decide (ts.length ≤ 4) && ts.all canT
def canL (l: Lt): Bool:= canM l.by_ && canA l.pred l.args && canM l.at_
def canR (r: Ru): Bool:= canT r.home && canA r.pred r.args && canM r.to_ && decide (1 ≤ r.body.length) && decide (r.body.length ≤ 4) && r.body.all canL
theorem canT_eq (t: Tm): canT t = if t.v ≠ [] then (zk t.k && isTok t.v 2 t.v) else if t.k.num = true then t.k.s.isEmpty else decide (t.k.n = 0) && plainB t.k.s:= by
 unfold canT termS
 rw [tok_var]
 by_cases h1: t.v ≠ []
 ·rw [if_pos h1,if_pos h1]
  cases zk t.k && namedB great t.v <;> rfl
 ·rw [if_neg h1,if_neg h1]
  by_cases h2: t.k.num = true
  ·rw [if_pos h2,if_pos h2]
   cases t.k.s <;> simp
  ·rw [if_neg h2,if_neg h2]
   by_cases h3: t.k.n = 0 ∧ plainB t.k.s = true
   ·rw [if_pos h3]
    simp only [h3.1,h3.2,decide_true,Bool.and_true]
    split <;> rfl
   ·rw [if_neg h3]
    by_cases h4: t.k.n = 0
    ·have: plainB t.k.s = false:= by
      rw [Bool.eq_false_iff];exact fun h => h3 ⟨h4,h⟩
     simp [this]
    ·simp [h4]
theorem maybe_some (a: List UInt8) (t: Tm) (b: List UInt8): (maybeS a t b).isSome = canM t:= by
 unfold maybeS canM
 cases noneT t with
 | true => rfl
 | false => simp [canT]
theorem args_some: ∀ ts: List Tm,(argsS ts).isSome = ts.all canT
 | [] => rfl
 | [t] => by simp [argsS,canT]
 | t:: u:: r => by
  have ih:= args_some (u:: r)
  rw [argsS,List.all_cons,← ih,canT]
  cases termS t <;> simp
theorem atom_some (p: List UInt8) (ts: List Tm): (atomS p ts).isSome = canA p ts:= by
 unfold atomS canA
 by_cases h: wordB p = true ∧ ts.length ≤ 4
 ·rw [if_pos h,← args_some];simp [h.1,h.2]
 ·rw [if_neg h]
  by_cases h1: wordB p = true
  ·have: ¬ ts.length ≤ 4:= fun h2 => h ⟨h1,h2⟩
   simp [this]
  ·simp [h1]
theorem lit_some (l: Lt): (litS l).isSome = canL l:= by
 unfold litS canL
 rw [← maybe_some [] l.by_ [32,115,97,121,115,32],← atom_some,← maybe_some [32,97,116,32] l.at_ []]
 cases maybeS [] l.by_ [32,115,97,121,115,32] <;> cases atomS l.pred l.args <;> simp
theorem lits_some: ∀ ls: List Lt,(litsS ls).isSome = ls.all canL
 | [] => rfl
 | [t] => by simp [litsS,lit_some]
 | t:: u:: r => by
  have ih:= lits_some (u:: r)
  rw [litsS,List.all_cons,← ih,← lit_some]
  cases litS t <;> simp
theorem rule_some (r: Ru): (ruleS r).isSome = canR r:= by
 unfold ruleS canR
 by_cases h: 1 ≤ r.body.length ∧ r.body.length ≤ 4
 ·rw [if_pos h]
  simp only [h.1,h.2,decide_true,Bool.and_true]
  rw [← maybe_some [32,116,111,32] r.to_ [],← atom_some,← lits_some,canT]
  cases termS r.home <;> cases atomS r.pred r.args <;> cases maybeS [32,116,111,32] r.to_ [] <;> simp
 ·rw [if_neg h]
  by_cases h1: 1 ≤ r.body.length
  ·have: ¬ r.body.length ≤ 4:= fun h2 => h ⟨h1,h2⟩
   simp [this]
  ·simp [h1]
theorem itoa_len {n: Int} (h: -9223372036854775808 ≤ n ∧ n ≤ 9223372036854775807): (Go.Lib.itoa n).length ≤ 20:= by
 have hd: ∀ (k u: Nat),u < 10 ^ (k + 1) → (Go.Lib.decDigits u).length ≤ k + 1:= by
  intro k
  induction k with
  | zero => intro u hu;rw [Go.Lib.decDigits,dif_pos (by omega)];simp
  | succ k ih =>
   intro u hu
   rw [Go.Lib.decDigits]
   split
   ·simp
   ·rw [List.length_append]
    have:= ih (u / 10) (by rw [Nat.pow_succ] at hu;omega)
    simp;omega
 unfold Go.Lib.itoa
 split
 ·have:= hd 18 n.natAbs (by omega)
  simp;omega
 ·have:= hd 18 n.toNat (by omega)
  omega
theorem term_len {t: Tm} {s: List UInt8} (hi: KIn t) (h: termS t = some s): s.length ≤ 34:= by
 unfold termS at h
 split at h
 ·split at h
  ·rename_i h2
   simp only [Bool.and_eq_true] at h2
   have:= named_len h2.2
   cases h;omega
  ·cases h
 ·split at h
  ·split at h
   ·cases h;have:= itoa_len hi;omega
   ·cases h
  ·split at h
   ·rename_i h3
    have h3:= h3.2
    unfold plainB at h3
    simp only [Bool.and_eq_true,decide_eq_true_eq] at h3
    split at h
    ·cases h;omega
    ·cases h;simp;omega
   ·cases h
theorem maybe_len {t: Tm} {a b s: List UInt8} (hi: KIn t) (h: maybeS a t b = some s): s.length ≤ a.length + b.length + 34:= by
 unfold maybeS at h
 split at h
 ·cases h;simp
 ·rw [Option.map_eq_some_iff] at h
  obtain ⟨x,hx,rfl⟩:= h
  have:= term_len hi hx
  simp;omega
theorem args_len: ∀ {ts: List Tm} {s: List UInt8},(∀ t ∈ ts,KIn t) → argsS ts = some s → s.length ≤ 36 * ts.length
 | [],s,_,h => by cases h;simp
 | [t],s,hi,h => by have:= term_len (hi t (by simp)) h;simp;omega
 | t:: u:: r,s,hi,h => by
  rw [argsS] at h
  obtain ⟨x,hx,h⟩:= Option.bind_eq_some_iff.1 h
  obtain ⟨y,hy,rfl⟩:= Option.map_eq_some_iff.1 h
  have h1:= term_len (hi t (by simp)) hx
  have h2:= args_len (fun v hv => hi v (List.mem_cons_of_mem _ hv)) hy
  simp only [List.length_append,List.length_cons] at *;omega
theorem word_len {p: List UInt8} (h: wordB p = true): p.length ≤ 32:= (named_len (word_named h).1).2
theorem atom_len {p: List UInt8} {ts: List Tm} {s: List UInt8} (hi: ∀ t ∈ ts,KIn t) (h: atomS p ts = some s): s.length ≤ 178:= by
 unfold atomS at h
 split at h
 ·rename_i h1
  obtain ⟨y,hy,rfl⟩:= Option.map_eq_some_iff.1 h
  have h2:= args_len hi hy
  have h3:= word_len h1.1
  have h4:= h1.2
  simp only [List.length_append,List.length_cons,List.length_nil];omega
 ·cases h
theorem lit_len {l: Lt} {s: List UInt8} (hi: LIn l) (h: litS l = some s): s.length ≤ 256:= by
 unfold litS at h
 obtain ⟨x,hx,h⟩:= Option.bind_eq_some_iff.1 h
 obtain ⟨y,hy,h⟩:= Option.bind_eq_some_iff.1 h
 obtain ⟨z,hz,rfl⟩:= Option.map_eq_some_iff.1 h
 have h1:= maybe_len hi.1 hx
 have h2:= atom_len hi.2.1 hy
 have h3:= maybe_len hi.2.2 hz
 simp only [List.length_append,List.length_cons,List.length_nil] at *;omega
theorem lits_len: ∀ {ts: List Lt} {s: List UInt8},(∀ t ∈ ts,LIn t) → litsS ts = some s → s.length ≤ 258 * ts.length
 | [],s,_,h => by cases h;simp
 | [t],s,hi,h => by have:= lit_len (hi t (by simp)) h;simp;omega
 | t:: u:: r,s,hi,h => by
  rw [litsS] at h
  obtain ⟨x,hx,h⟩:= Option.bind_eq_some_iff.1 h
  obtain ⟨y,hy,rfl⟩:= Option.map_eq_some_iff.1 h
  have h1:= lit_len (hi t (by simp)) hx
  have h2:= lits_len (fun v hv => hi v (List.mem_cons_of_mem _ hv)) hy
  simp only [List.length_append,List.length_cons] at *;omega
theorem rule_len {r: Ru} {s: List UInt8} (hi: RIn r) (h: ruleS r = some s): s.length ≤ 1300:= by
 unfold ruleS at h
 split at h
 ·rename_i h0
  obtain ⟨x,hx,h⟩:= Option.bind_eq_some_iff.1 h
  obtain ⟨y,hy,h⟩:= Option.bind_eq_some_iff.1 h
  obtain ⟨z,hz,h⟩:= Option.bind_eq_some_iff.1 h
  obtain ⟨b,hb,rfl⟩:= Option.map_eq_some_iff.1 h
  have h1:= term_len hi.1 hx
  have h2:= atom_len hi.2.1 hy
  have h3:= maybe_len hi.2.2.1 hz
  have h4:= lits_len hi.2.2.2 hb
  have h5:= h0.2
  simp only [List.length_append,List.length_cons,List.length_nil] at *;omega
 ·cases h
end Sh
end Go.Proofs.YtpdmmmdkpipmkaaGreatDoor
