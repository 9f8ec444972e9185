/-
  The mathematics of numbers in digits: the library's reading and writing of them, and the document's.
-/
import Derived.Test.YtcogjphoceaejaaDoorLm
namespace Go.Proofs.YtcogjphoceaejaaDoor
namespace Lx
open Go.Lib

def dv (acc : Nat) (ds : List UInt8) : Nat := ds.foldl (fun a c => a * 10 + (c.toNat - 48)) acc
theorem dval_dv (ds : List UInt8) : dval ds = dv 0 ds := by simp only [dval, dv]
theorem dv_cons (acc : Nat) (c : UInt8) (r : List UInt8) : dv acc (c :: r) = dv (acc * 10 + (c.toNat - 48)) r := by simp only [dv, List.foldl_cons]
theorem dv_snoc (acc : Nat) (c : UInt8) (r : List UInt8) : dv acc (r ++ [c]) = dv acc r * 10 + (c.toNat - 48) := by simp [dv]
theorem dv_ge : ∀ (ds : List UInt8) (acc : Nat), acc ≤ dv acc ds
  | [], _ => Nat.le_refl _
  | c :: r, acc => by rw [dv_cons]; have := dv_ge r (acc * 10 + (c.toNat - 48)); omega
theorem digit_le {c : UInt8} (h : digit c = true) : 48 ≤ c.toNat ∧ c.toNat ≤ 57 := by simpa [digit] using h

theorem pu_ok : ∀ (ds : List UInt8) (acc : Nat), (∀ c ∈ ds, digit c = true) → dv acc ds < 18446744073709551616 → parseUint10 acc ds = .ok (dv acc ds)
  | [], _, _, _ => rfl
  | c :: r, acc, hd, hl => by
    have hc := digit_le (hd c (by simp))
    have hg := dv_ge r (acc * 10 + (c.toNat - 48))
    rw [dv_cons] at hl ⊢
    rw [parseUint10, if_pos hc, if_neg (by omega), if_neg (by omega)]
    exact pu_ok r _ (fun x hx => hd x (by simp [hx])) hl
theorem pu_big : ∀ (ds : List UInt8) (acc : Nat), (∀ c ∈ ds, digit c = true) → acc < 18446744073709551616 → 18446744073709551616 ≤ dv acc ds → parseUint10 acc ds = .range
  | [], acc, _, h, hl => by simp [dv] at hl; omega
  | c :: r, acc, hd, h, hl => by
    have hc := digit_le (hd c (by simp))
    rw [dv_cons] at hl
    rw [parseUint10, if_pos hc]
    split
    · rfl
    split
    · rfl
    · exact pu_big r _ (fun x hx => hd x (by simp [hx])) (by omega) hl
theorem pu_is {ds : List UInt8} (hd : ∀ c ∈ ds, digit c = true) {u : Nat} (h : parseUint10 0 ds = .ok u) : u = dval ds := by
  rcases Nat.lt_or_ge (dv 0 ds) 18446744073709551616 with h1 | h1
  · rw [pu_ok ds 0 hd h1] at h; cases h; rfl
  · rw [pu_big ds 0 hd (by omega) h1] at h; cases h

theorem dec_small {u : Nat} (h : u < 10) : decDigits u = [UInt8.ofNat (48 + u)] := by rw [decDigits, dif_pos h]
theorem dec_big {u : Nat} (h : ¬ u < 10) : decDigits u = decDigits (u / 10) ++ [UInt8.ofNat (48 + u % 10)] := by rw [decDigits, dif_neg h]
theorem ofNat_toNat {n : Nat} (h : n < 256) : (UInt8.ofNat n).toNat = n := by simp [Nat.mod_eq_of_lt h]
theorem dec_ne (u : Nat) : decDigits u ≠ [] := by
  intro h
  have h1 := decDigits_length u
  rw [h, List.length_nil] at h1
  have h2 := nDigits_pos u
  omega
theorem dec_digits (u : Nat) : ∀ c ∈ decDigits u, digit c = true := by
  induction u using Nat.strongRecOn with
  | _ u ih =>
    intro c hc
    by_cases h : u < 10
    · rw [dec_small h] at hc
      simp only [List.mem_singleton] at hc
      subst hc
      simp only [digit, ofNat_toNat (show 48 + u < 256 by omega)]; simp; omega
    · rw [dec_big h] at hc
      rcases List.mem_append.1 hc with hc | hc
      · exact ih (u / 10) (by omega) c hc
      · simp only [List.mem_singleton] at hc
        subst hc
        simp only [digit, ofNat_toNat (show 48 + u % 10 < 256 by omega)]; simp; omega
theorem dec_head {u : Nat} (h : (decDigits u).head? = some 48) : u = 0 := by
  induction u using Nat.strongRecOn with
  | _ u ih =>
    by_cases h1 : u < 10
    · rw [dec_small h1] at h
      simp only [List.head?_cons, Option.some.injEq] at h
      have := congrArg UInt8.toNat h
      rw [ofNat_toNat (by omega)] at this
      simp at this
      exact this
    · obtain ⟨a, q, e⟩ := List.exists_cons_of_ne_nil (dec_ne (u / 10))
      rw [dec_big h1, e] at h
      have := ih (u / 10) (by omega) (by rw [e]; simpa using h)
      omega
theorem dec_val (u : Nat) : dval (decDigits u) = u := by
  induction u using Nat.strongRecOn with
  | _ u ih =>
    by_cases h : u < 10
    · rw [dec_small h]
      simp only [dval, List.foldl_cons, List.foldl_nil, ofNat_toNat (show 48 + u < 256 by omega)]; omega
    · rw [dec_big h, dval_dv, dv_snoc, ← dval_dv, ih (u / 10) (by omega), ofNat_toNat (show 48 + u % 10 < 256 by omega)]; omega
theorem val_pos {c : UInt8} {r : List UInt8} (hc : digit c = true) (h : c ≠ 48) : 1 ≤ dv 0 (c :: r) := by
  rw [dv_cons]
  have h1 := dv_ge r (0 * 10 + (c.toNat - 48))
  have h2 := digit_le hc
  have h3 : c.toNat ≠ 48 := fun e => h (UInt8.toNat_inj.1 e)
  omega
/-- digits without a 0 ahead are those in which their number is told -/
theorem val_dec : ∀ (n : Nat) (ds : List UInt8), ds.length = n → (∀ c ∈ ds, digit c = true) → ds ≠ [] → (1 < ds.length → ds.head? ≠ some 48) → decDigits (dval ds) = ds
  | 0, ds, hn, _, hne, _ => absurd (List.eq_nil_of_length_eq_zero hn) hne
  | n + 1, ds, hn, hd, hne, hh => by
    obtain ⟨r, c, rfl⟩ : ∃ r c, ds = r ++ [c] := ⟨ds.dropLast, ds.getLast hne, (List.dropLast_concat_getLast hne).symm⟩
    have hc := digit_le (hd c (by simp))
    rw [dval_dv, dv_snoc]
    by_cases hr : r = []
    · subst hr
      have e : dv 0 [] = 0 := rfl
      rw [e, dec_small (by omega)]
      congr 1
      apply UInt8.toNat_inj.1
      rw [ofNat_toNat (by omega)]; omega
    · obtain ⟨a, q, rfl⟩ := List.exists_cons_of_ne_nil hr
      have hd' : ∀ c ∈ (a :: q), digit c = true := fun x hx => hd x (List.mem_append_left _ hx)
      have ha : a ≠ 48 := fun e => hh (by simp) (by simp [e])
      have hp := val_pos (r := q) (hd' a (by simp)) ha
      rw [dec_big (by omega), show (dv 0 (a :: q) * 10 + (c.toNat - 48)) / 10 = dv 0 (a :: q) by omega, show (dv 0 (a :: q) * 10 + (c.toNat - 48)) % 10 = c.toNat - 48 by omega, ← dval_dv,
        val_dec n (a :: q) (by simp at hn ⊢; omega) hd' (by simp) (fun _ => by simp [ha])]
      congr 2
      apply UInt8.toNat_inj.1
      rw [ofNat_toNat (by omega)]; omega

/-- the text of a number: a sign, perhaps, and digits -/
def txt (neg : Bool) (ds : List UInt8) : List UInt8 := if neg = true then 45 :: ds else ds
theorem mag {ds : List UInt8} (hne : ds ≠ []) : parseMag ds = parseUint10 0 ds := by unfold parseMag; rw [if_neg hne]
theorem atoi_neg (ds : List UInt8) : atoiAll (txt true ds) = signed (parseMag ds) := by unfold txt; rw [if_pos rfl, atoiAll_minus]
theorem atoi_pos {ds : List UInt8} (hd : ∀ c ∈ ds, digit c = true) (hne : ds ≠ []) : atoiAll (txt false ds) = signless (parseMag ds) := by
  obtain ⟨a, q, rfl⟩ := List.exists_cons_of_ne_nil hne
  have := digit_le (hd a (by simp))
  unfold txt
  rw [if_neg (by simp), atoiAll_plain a q (by omega) (by omega)]
theorem numOf_some {neg : Bool} {ds : List UInt8} {v : Int} (h : numOf neg ds = some v) : ds ≠ [] ∧ ¬ (ds.head? = some 48 ∧ (1 < ds.length ∨ neg = true)) ∧ (neg = true → dval ds ≤ 9223372036854775808 ∧ v = -(dval ds : Int)) ∧ (neg = false → dval ds < 9223372036854775808 ∧ v = (dval ds : Int)) := by
  unfold numOf at h
  split at h
  · cases h
  rename_i h1
  rw [not_or] at h1
  refine ⟨h1.1, h1.2, fun hn => ?_, fun hn => ?_⟩
  · rw [if_pos hn] at h
    split at h
    · cases h; exact ⟨by assumption, rfl⟩
    · cases h
  · rw [if_neg (by simp [hn])] at h
    split at h
    · cases h; exact ⟨by assumption, rfl⟩
    · cases h
theorem num_yes {neg : Bool} {ds : List UInt8} {v : Int} (hd : ∀ c ∈ ds, digit c = true) (h : numOf neg ds = some v) : atoiAll (txt neg ds) = .ok v ∧ itoa v = txt neg ds := by
  obtain ⟨hne, hh, h1, h2⟩ := numOf_some h
  have hdec := val_dec ds.length ds rfl hd hne (fun hl he => hh ⟨he, .inl hl⟩)
  cases neg with
  | true =>
    obtain ⟨hv, rfl⟩ := h1 rfl
    have hpu := pu_ok ds 0 hd (by rw [← dval_dv]; omega)
    rw [← dval_dv] at hpu
    refine ⟨by rw [atoi_neg, mag hne, hpu]; unfold signed; simp only; rw [if_neg (by omega)], ?_⟩
    have hpos : 1 ≤ dval ds := by
      obtain ⟨a, q, rfl⟩ := List.exists_cons_of_ne_nil hne
      exact val_pos (hd a (by simp)) (fun e => hh ⟨by simp [e], .inr rfl⟩)
    rw [itoa_neg _ hpos, hdec]; rfl
  | false =>
    obtain ⟨hv, rfl⟩ := h2 rfl
    have hpu := pu_ok ds 0 hd (by rw [← dval_dv]; omega)
    rw [← dval_dv] at hpu
    refine ⟨by rw [atoi_pos hd hne, mag hne, hpu]; unfold signless; simp only; rw [if_neg (by omega)], ?_⟩
    rw [itoa_nonneg, hdec]; rfl
theorem num_no {neg : Bool} {ds : List UInt8} {v : Int} (hd : ∀ c ∈ ds, digit c = true) (h : numOf neg ds = none) (ha : atoiAll (txt neg ds) = .ok v) : itoa v ≠ txt neg ds := by
  intro hi
  cases neg with
  | true =>
    rw [atoi_neg] at ha
    by_cases hne : ds = []
    · subst hne; simp [parseMag, signed] at ha
    rw [mag hne] at ha
    cases hp : parseUint10 0 ds with
    | ok u =>
      have hu := pu_is hd hp
      subst hu
      rw [hp] at ha
      unfold signed at ha
      simp only at ha
      split at ha
      · cases ha
      rename_i hb
      cases ha
      rcases Nat.eq_zero_or_pos (dval ds) with h0 | h0
      · rw [h0] at hi
        have : itoa (-((0 : Nat) : Int)) = decDigits 0 := by have := itoa_nonneg 0; simpa using this
        rw [this, dec_small (by omega)] at hi
        simp [txt] at hi
      · rw [itoa_neg _ h0] at hi
        have e : decDigits (dval ds) = ds := by unfold txt at hi; rw [if_pos rfl] at hi; exact (List.cons.inj hi).2
        unfold numOf at h
        rw [if_neg, if_pos rfl, if_pos (by omega)] at h
        · cases h
        · rintro (h' | ⟨h', _⟩)
          · exact hne h'
          · rw [← e] at h'; have := dec_head h'; omega
    | _ => rw [hp] at ha; cases ha
  | false =>
    by_cases hne : ds = []
    · subst hne; simp [txt, atoiAll] at ha
    rw [atoi_pos hd hne, mag hne] at ha
    cases hp : parseUint10 0 ds with
    | ok u =>
      have hu := pu_is hd hp
      subst hu
      rw [hp] at ha
      unfold signless at ha
      simp only at ha
      split at ha
      · cases ha
      rename_i hb
      cases ha
      rw [itoa_nonneg] at hi
      have e : decDigits (dval ds) = ds := hi
      unfold numOf at h
      rw [if_neg, if_neg (by simp), if_pos (by omega)] at h
      · cases h
      · rintro (h' | ⟨h', h'' | h''⟩)
        · exact hne h'
        · rw [← e] at h'
          have h0 := dec_head h'
          rw [← e, h0, dec_small (by omega)] at h''
          simp at h''
        · cases h''
    | _ => rw [hp] at ha; cases ha

/-! in a text -/
theorem mem_sub {l : List UInt8} {i j : Nat} {c : UInt8} (h : c ∈ sub l i j) : ∃ k, ∃ hk : k < l.length, i ≤ k ∧ k < j ∧ l[k] = c := by
  unfold sub at h
  obtain ⟨n, hn, rfl⟩ := List.getElem_of_mem h
  rw [List.length_take, List.length_drop] at hn
  refine ⟨i + n, by omega, by omega, by omega, ?_⟩
  simp
theorem run_digits (l : List UInt8) (i : Nat) : ∀ c ∈ sub l i (run digit l i), digit c = true := fun c hc => by
  obtain ⟨k, hk, h1, h2, rfl⟩ := mem_sub hc
  exact run_in h1 h2 hk
theorem sub_cons {l : List UInt8} {i j : Nat} (h : i < l.length) (hj : i < j) : sub l i j = l[i] :: sub l (i + 1) j := by
  unfold sub
  rw [List.drop_eq_getElem_cons h, show j - i = (j - (i + 1)) + 1 by omega, List.take_succ_cons]
theorem isNeg_at {l : List UInt8} {i : Nat} (h : i < l.length) : isNeg l i = decide (l[i].toNat = 45) := by simp [isNeg, h]
/-- the run that the program takes is the document's, and its text, too -/
theorem number_run {l : List UInt8} {i : Nat} (h : i < l.length) (hc : (digit l[i] || decide (l[i].toNat = 45)) = true) :
    run digit l (first l i) = run digit l (i + 1) ∧ sub l i (run digit l (i + 1)) = txt (isNeg l i) (sub l (first l i) (run digit l (first l i))) := by
  have hr := le_run digit l (i + 1)
  rw [isNeg_at h]
  unfold first
  rw [isNeg_at h]
  by_cases h45 : l[i].toNat = 45
  · simp only [h45, decide_true, if_true]
    refine ⟨trivial, ?_⟩
    rw [sub_cons h (by omega), show l[i] = 45 from UInt8.toNat_inj.1 h45]; rfl
  · have hd : digit l[i] = true := by simpa [h45] using hc
    simp only [h45, decide_false]
    rw [if_neg (by simp), run_step h hd]
    exact ⟨rfl, rfl⟩
/-! digits one by one -/
theorem sub_snoc {l : List UInt8} {f k : Nat} (hf : f ≤ k) (hk : k < l.length) : sub l f (k + 1) = sub l f k ++ [l[k]] := by
  unfold sub
  rw [show k + 1 - f = (k - f) + 1 by omega, List.take_add_one]
  congr 1
  rw [List.getElem?_drop, show f + (k - f) = k by omega, List.getElem?_eq_getElem hk]; rfl
theorem sub_cut {l : List UInt8} {f k e : Nat} (hf : f ≤ k) (he : k ≤ e) : sub l f e = sub l f k ++ sub l k e := by
  unfold sub
  rw [show e - f = (k - f) + (e - k) by omega, List.take_add, List.drop_drop, show f + (k - f) = k by omega]
theorem dval_snoc {l : List UInt8} {f k : Nat} (hf : f ≤ k) (hk : k < l.length) : dval (sub l f (k + 1)) = dval (sub l f k) * 10 + (l[k].toNat - 48) := by
  rw [sub_snoc hf hk, dval_dv, dv_snoc, ← dval_dv]
theorem dval_mono {l : List UInt8} {f k e : Nat} (hf : f ≤ k) (he : k ≤ e) : dval (sub l f k) ≤ dval (sub l f e) := by
  rw [sub_cut hf he, dval_dv, dval_dv]
  have : dv 0 (sub l f k ++ sub l k e) = dv (dv 0 (sub l f k)) (sub l k e) := by simp [dv]
  rw [this]; exact dv_ge _ _
theorem sub_self (l : List UInt8) (f : Nat) : sub l f f = [] := by simp [sub]
theorem sub_head {l : List UInt8} {f k : Nat} (h : f < k) (hk : k ≤ l.length) : (sub l f k).head? = some (l[f]'(by omega)) := by
  rw [sub_cons (by omega) h]; rfl
theorem num_big {neg : Bool} {ds : List UInt8} (h : 9223372036854775808 < dval ds) : numOf neg ds = none := by
  unfold numOf
  split
  · rfl
  split
  · rw [if_neg (by omega)]
  · rw [if_neg (by omega)]
theorem num_nil (neg : Bool) (l : List UInt8) (f : Nat) : numOf neg (sub l f f) = none := by rw [sub_self]; rfl
theorem num_zero {neg : Bool} {l : List UInt8} {f k : Nat} (h : f < k) (hk : k ≤ l.length) (h0 : (l[f]'(by omega)).toNat = 48) (h1 : f + 1 < k ∨ neg = true) : numOf neg (sub l f k) = none := by
  unfold numOf
  rw [if_pos (.inr ⟨by rw [sub_head h hk]; congr 1; exact UInt8.toNat_inj.1 h0, by rw [sub_length hk]; rcases h1 with h1 | h1; exact .inl (by omega); exact .inr h1⟩)]
theorem num_cond {neg : Bool} {l : List UInt8} {f k : Nat} (h : f < k) (hk : k ≤ l.length) (h0 : ¬ ((l[f]'(by omega)).toNat = 48 ∧ (f + 1 < k ∨ neg = true))) : ¬ (sub l f k = [] ∨ ((sub l f k).head? = some 48 ∧ (1 < (sub l f k).length ∨ neg = true))) := by
  rintro (h' | ⟨h', h''⟩)
  · have := sub_length (i := f) hk; rw [h'] at this; simp at this; omega
  · refine h0 ⟨?_, ?_⟩
    · rw [sub_head h hk] at h'; have := congrArg UInt8.toNat (Option.some.inj h'); simpa using this
    · rw [sub_length hk] at h''; rcases h'' with h'' | h''; exact .inl (by omega); exact .inr h''
theorem num_neg {l : List UInt8} {f k : Nat} (h : f < k) (hk : k ≤ l.length) (h0 : ¬ ((l[f]'(by omega)).toNat = 48 ∧ (f + 1 < k ∨ true = true))) (hv : dval (sub l f k) ≤ 9223372036854775808) : numOf true (sub l f k) = some (-(dval (sub l f k) : Int)) := by
  unfold numOf
  rw [if_neg (num_cond h hk h0), if_pos rfl, if_pos hv]
theorem num_pos {l : List UInt8} {f k : Nat} (h : f < k) (hk : k ≤ l.length) (h0 : ¬ ((l[f]'(by omega)).toNat = 48 ∧ (f + 1 < k ∨ false = true))) (hv : dval (sub l f k) < 9223372036854775808) : numOf false (sub l f k) = some (dval (sub l f k) : Int) := by
  unfold numOf
  rw [if_neg (num_cond h hk h0), if_neg (by simp), if_pos hv]
theorem num_edge {ds : List UInt8} (hv : dval ds = 9223372036854775808) : numOf false ds = none := by
  unfold numOf
  split
  · rfl
  rw [if_neg (by simp), if_neg (by omega)]
end Lx
end Go.Proofs.YtcogjphoceaejaaDoor
