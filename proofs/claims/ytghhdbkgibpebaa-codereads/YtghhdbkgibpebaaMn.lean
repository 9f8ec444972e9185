/-
  Parts that are read one behind the other: the reader's states, and what was got. No memory.
-/
import Derived.Test.YtghhdbkgibpebaaRd
namespace Go.Proofs.Ytghhdbkgibpebaa
open Go.RowKit Go.Sort

theorem got_inj {α : Type} {p : Pr α} {st : St} {u v : α} (h : Got p st u) (k : Got p st v) : u = v := by
  obtain ⟨x, g, j, h1, h2⟩ := h
  obtain ⟨x', g', j', k1, k2⟩ := k
  rw [h1] at k1; cases k1
  rw [h2] at k2; cases k2; rfl
theorem got_em {α : Type} (p : Pr α) (st : St) : (∃ v, Got p st v) ∨ ((∀ v, ¬ Got p st v) ∧ ∃ e, ∀ f, stp p f st = .error e) := by
  rcases st with e | ⟨x, g⟩
  · exact .inr ⟨fun v hv => got_err hv, e, fun f => rfl⟩
  · cases hp : p x with
    | error e => exact .inr ⟨fun v hv => (by obtain ⟨j, hj⟩ := got_ok hv; rw [hp] at hj; cases hj), e, fun f => stp_no hp⟩
    | ok r => obtain ⟨v, j⟩ := r; exact .inl ⟨v, x, g, j, rfl, hp⟩
theorem got_bnd {α β : Type} {p : Pr α} {q : α → Pr β} {st : St} {u : β} (f : α → Bool) (h : Got (p.bnd q) st u) : ∃ v, Got p st v ∧ Got (q v) (stp p f st) u := by
  obtain ⟨x, g, j, rfl, h2⟩ := h
  obtain ⟨v, i, h3, h4⟩ := Pr.bnd_inv h2
  exact ⟨v, ⟨x, g, i, rfl, h3⟩, i, _, j, stp_ok h3, h4⟩
theorem got_ret {α β : Type} {p : Pr α} {r : α → β} {st : St} {u : β} (h : Got (p.bnd fun v => Pr.ret (r v)) st u) : ∃ v, Got p st v ∧ u = r v := by
  obtain ⟨v, h1, h2⟩ := got_bnd noF h
  obtain ⟨x, g, j, h3, h4⟩ := h2
  exact ⟨v, h1, (ret_inv h4).1.symm⟩
theorem stp_ret {α β : Type} {p : Pr α} {r : α → β} {F : β → Bool} (st : St) : stp (p.bnd fun v => Pr.ret (r v)) F st = stp p (fun v => F (r v)) st := by
  rcases st with e | ⟨x, g⟩
  · rfl
  · cases hp : p x with
    | error e => rw [stp_no hp, stp_no (Pr.bnd_err hp)]
    | ok y => obtain ⟨v, j⟩ := y; rw [stp_ok hp, stp_ok (v := r v) (j := j) (by rw [Pr.bnd_ok hp]; rfl)]
/-- one part, and then the rest -/
theorem stp_chain {α β : Type} {p : Pr α} {q : α → Pr β} {r : St → St} {F : β → Bool} {F1 : α → Bool} (F2 : α → β → Bool) {st : St} (hr : ∀ e, r (.error e) = .error e)
    (hF : ∀ v x u j, q v x = .ok (u, j) → F u = (F1 v || F2 v u)) (h : ∀ v, Got p st v → stp (q v) (F2 v) (stp p F1 st) = r (stp p F1 st)) : stp (p.bnd q) F st = r (stp p F1 st) := by
  rcases st with e | ⟨x, g⟩
  · exact (hr e).symm
  · cases hp : p x with
    | error e => rw [stp_no hp, hr, stp_no (Pr.bnd_err hp)]
    | ok y =>
      obtain ⟨v, j⟩ := y
      rw [← h v ⟨x, g, j, rfl, hp⟩, stp_ok hp]
      cases hq : q v j with
      | error e => rw [stp_no hq, stp_no (by rw [Pr.bnd_ok hp]; exact hq)]
      | ok z => obtain ⟨u, i⟩ := z; rw [stp_ok hq, stp_ok (v := u) (j := i) (by rw [Pr.bnd_ok hp]; exact hq), hF v j u i hq, Bool.or_assoc]

/-! constants -/
theorem st_const0 {l : List UInt8} {st : St} (h : (∀ v, Got (pKind l 1) st v → v = 0)) : stp (pConst l) noF st = stp (pInt l) noF (stp (pKind l 1) noF st) :=
  stp_chain (r := fun s => stp (pInt l) noF s) (F1 := noF) (fun _ => noF) (fun _ => rfl) (fun _ _ _ _ _ => rfl) fun v hv => by
    rw [h v hv]; exact stp_ret _
theorem st_const1 {l : List UInt8} {st : St} (h : (∀ v, Got (pKind l 1) st v → v ≠ 0)) : stp (pConst l) noF st = stp (pText l) noF (stp (pKind l 1) noF st) :=
  stp_chain (r := fun s => stp (pText l) noF s) (F1 := noF) (fun _ => noF) (fun _ => rfl) (fun _ _ _ _ _ => rfl) fun v hv => by
    simp only [if_neg (h v hv)]; exact stp_ret _
theorem got_const0 {l : List UInt8} {st : St} {k : K} (h : ∀ v, Got (pKind l 1) st v → v = 0) (hk : Got (pConst l) st k) : ∃ n, Got (pInt l) (stp (pKind l 1) noF st) n ∧ k = ⟨true, n, []⟩ := by
  obtain ⟨v, h1, h2⟩ := got_bnd noF hk
  rw [h v h1] at h2
  exact got_ret h2
theorem got_const1 {l : List UInt8} {st : St} {k : K} (h : ∀ v, Got (pKind l 1) st v → v ≠ 0) (hk : Got (pConst l) st k) : ∃ s, Got (pText l) (stp (pKind l 1) noF st) s ∧ k = ⟨false, 0, s⟩ := by
  obtain ⟨v, h1, h2⟩ := got_bnd noF hk
  simp only [if_neg (h v h1)] at h2
  exact got_ret h2
/-! terms -/
theorem st_term0 {l : List UInt8} {st : St} (f : Rt → Bool) (hf : f .none = false) (h : (∀ v, Got (pKind l 2) st v → v = 0)) : stp (pTerm l) f st = stp (pKind l 2) noF st :=
  stp_chain (r := fun s => s) (F1 := noF) (fun _ => f) (fun _ => rfl) (fun _ _ _ _ _ => rfl) fun v hv => by
    rw [h v hv]
    show stp (Pr.ret Rt.none) f _ = _
    generalize stp (pKind l 2) noF st = s
    rcases s with e | ⟨x, g⟩
    · rfl
    · rw [stp_ok (v := Rt.none) (j := x) rfl, hf, Bool.or_false]
theorem st_term1 {l : List UInt8} {st : St} (f : Rt → Bool) (h : (∀ v, Got (pKind l 2) st v → v = 1)) : stp (pTerm l) f st = stp (pText l) (fun s => f (.var s)) (stp (pKind l 2) noF st) :=
  stp_chain (r := fun s => stp (pText l) (fun s => f (.var s)) s) (F1 := noF) (fun _ => f) (fun _ => rfl) (fun _ _ _ _ _ => rfl) fun v hv => by
    rw [h v hv]; exact stp_ret _
theorem st_term2 {l : List UInt8} {st : St} (f : Rt → Bool) (h : (∀ v, Got (pKind l 2) st v → v = 2)) : stp (pTerm l) f st = stp (pConst l) (fun s => f (.val s)) (stp (pKind l 2) noF st) :=
  stp_chain (r := fun s => stp (pConst l) (fun s => f (.val s)) s) (F1 := noF) (fun _ => f) (fun _ => rfl) (fun _ _ _ _ _ => rfl) fun v hv => by
    rw [h v hv]; exact stp_ret _
theorem got_term0 {l : List UInt8} {st : St} {t : Rt} (h : ∀ v, Got (pKind l 2) st v → v = 0) (ht : Got (pTerm l) st t) : t = .none := by
  obtain ⟨v, h1, h2⟩ := got_bnd noF ht
  rw [h v h1] at h2
  obtain ⟨x, g, j, _, h4⟩ := h2
  exact (ret_inv h4).1.symm
theorem got_term1 {l : List UInt8} {st : St} {t : Rt} (h : ∀ v, Got (pKind l 2) st v → v = 1) (ht : Got (pTerm l) st t) : ∃ s, Got (pText l) (stp (pKind l 2) noF st) s ∧ t = .var s := by
  obtain ⟨v, h1, h2⟩ := got_bnd noF ht
  rw [h v h1] at h2
  exact got_ret h2
theorem got_term2 {l : List UInt8} {st : St} {t : Rt} (h : ∀ v, Got (pKind l 2) st v → v = 2) (ht : Got (pTerm l) st t) : ∃ s, Got (pConst l) (stp (pKind l 2) noF st) s ∧ t = .val s := by
  obtain ⟨v, h1, h2⟩ := got_bnd noF ht
  rw [h v h1] at h2
  exact got_ret h2
/-- the mark of what was got -/
theorem stp_mark {α : Type} {p : Pr α} {f : α → Bool} {st : St} (b : Bool) (h : ∀ v, Got p st v → f v = b) : stp p f st = stp p (fun _ => b) st := by
  rcases st with e | ⟨x, g⟩
  · rfl
  · cases hp : p x with
    | error e => rw [stp_no hp, stp_no hp]
    | ok y => obtain ⟨v, j⟩ := y; rw [stp_ok hp, stp_ok hp, h v ⟨x, g, j, rfl, hp⟩]

/-! literals, rules, facts -/
theorem st_fact (l : List UInt8) (st : St) : stp (pFact l) noF st = stp (pList l 48 (pConst l)) noF (stp (pText l) noF (stp (pText l) noF (stp (pText l) noF st))) :=
  stp_chain (r := fun s => stp (pList l 48 (pConst l)) noF (stp (pText l) noF (stp (pText l) noF s))) (F1 := noF) (fun _ => noF) (fun _ => rfl) (fun _ _ _ _ _ => rfl) fun _ _ =>
    stp_chain (r := fun s => stp (pList l 48 (pConst l)) noF (stp (pText l) noF s)) (F1 := noF) (fun _ => noF) (fun _ => rfl) (fun _ _ _ _ _ => rfl) fun _ _ =>
      stp_chain (r := fun s => stp (pList l 48 (pConst l)) noF s) (F1 := noF) (fun _ => noF) (fun _ => rfl) (fun _ _ _ _ _ => rfl) fun _ _ => stp_ret _
theorem got_fact {l : List UInt8} {st : St} {f : F} (h : Got (pFact l) st f) : Got (pText l) st f.at_ ∧ Got (pText l) (stp (pText l) noF st) f.by_ ∧ Got (pText l) (stp (pText l) noF (stp (pText l) noF st)) f.pred ∧ Got (pList l 48 (pConst l)) (stp (pText l) noF (stp (pText l) noF (stp (pText l) noF st))) f.ks := by
  obtain ⟨a, h1, h⟩ := got_bnd noF h
  obtain ⟨b, h2, h⟩ := got_bnd noF h
  obtain ⟨c, h3, h⟩ := got_bnd noF h
  obtain ⟨d, h4, rfl⟩ := got_ret h
  exact ⟨h1, h2, h3, h4⟩
theorem st_lit (l : List UInt8) (f : Rt → Bool) (st : St) : stp (pLit l) (Rl.flag f) st = stp (pTerm l) f (stp (pList l 48 (pTerm l)) (fun ts : List Rt => ts.any f) (stp (pText l) noF (stp (pTerm l) f st))) :=
  stp_chain (r := fun s => stp (pTerm l) f (stp (pList l 48 (pTerm l)) (fun ts : List Rt => ts.any f) (stp (pText l) noF s))) (F1 := f) (fun _ (u : Rl) => u.args.any f || f u.at_) (fun _ => rfl)
    (fun a x u j h => by
      obtain ⟨_, _, _, h⟩ := Pr.bnd_inv h
      obtain ⟨_, _, _, h⟩ := Pr.bnd_inv h
      obtain ⟨_, _, _, h⟩ := Pr.bnd_inv h
      obtain ⟨rfl, _⟩ := ret_inv h
      simp [Rl.flag, Bool.or_assoc]) fun a _ =>
    stp_chain (r := fun s => stp (pTerm l) f (stp (pList l 48 (pTerm l)) (fun ts : List Rt => ts.any f) s)) (F1 := noF) (fun _ (u : Rl) => u.args.any f || f u.at_) (fun _ => rfl) (fun _ _ _ _ _ => rfl) fun b _ =>
      stp_chain (r := fun s => stp (pTerm l) f s) (F1 := fun ts : List Rt => ts.any f) (fun _ (u : Rl) => f u.at_) (fun _ => rfl)
        (fun c x u j h => by
          obtain ⟨_, _, _, h⟩ := Pr.bnd_inv h
          obtain ⟨rfl, _⟩ := ret_inv h
          rfl) fun c _ => stp_ret _
theorem got_lit {l : List UInt8} (f : Rt → Bool) {st : St} {u : Rl} (h : Got (pLit l) st u) : Got (pTerm l) st u.by_ ∧ Got (pText l) (stp (pTerm l) f st) u.pred ∧ Got (pList l 48 (pTerm l)) (stp (pText l) noF (stp (pTerm l) f st)) u.args ∧ Got (pTerm l) (stp (pList l 48 (pTerm l)) (fun ts => ts.any f) (stp (pText l) noF (stp (pTerm l) f st))) u.at_ := by
  obtain ⟨a, h1, h⟩ := got_bnd f h
  obtain ⟨b, h2, h⟩ := got_bnd noF h
  obtain ⟨c, h3, h⟩ := got_bnd (fun ts => ts.any f) h
  obtain ⟨d, h4, rfl⟩ := got_ret h
  exact ⟨h1, h2, h3, h4⟩
theorem st_rule (l : List UInt8) (f : Rt → Bool) (st : St) : stp (pRule l) (Rr.flag f) st = stp (pList l 5 (pLit l)) (fun ts : List Rl => ts.any (Rl.flag f)) (stp (pTerm l) f (stp (pList l 48 (pTerm l)) (fun ts : List Rt => ts.any f) (stp (pText l) noF (stp (pTerm l) f st)))) :=
  stp_chain (r := fun s => stp (pList l 5 (pLit l)) (fun ts : List Rl => ts.any (Rl.flag f)) (stp (pTerm l) f (stp (pList l 48 (pTerm l)) (fun ts : List Rt => ts.any f) (stp (pText l) noF s)))) (F1 := f) (fun _ (u : Rr) => u.args.any f || f u.to_ || u.body.any (Rl.flag f)) (fun _ => rfl)
    (fun a x u j h => by
      obtain ⟨_, _, _, h⟩ := Pr.bnd_inv h
      obtain ⟨_, _, _, h⟩ := Pr.bnd_inv h
      obtain ⟨_, _, _, h⟩ := Pr.bnd_inv h
      obtain ⟨_, _, _, h⟩ := Pr.bnd_inv h
      obtain ⟨rfl, _⟩ := ret_inv h
      simp [Rr.flag, Bool.or_assoc]) fun a _ =>
    stp_chain (r := fun s => stp (pList l 5 (pLit l)) (fun ts : List Rl => ts.any (Rl.flag f)) (stp (pTerm l) f (stp (pList l 48 (pTerm l)) (fun ts : List Rt => ts.any f) s))) (F1 := noF) (fun _ (u : Rr) => u.args.any f || f u.to_ || u.body.any (Rl.flag f)) (fun _ => rfl) (fun _ _ _ _ _ => rfl) fun b _ =>
      stp_chain (r := fun s => stp (pList l 5 (pLit l)) (fun ts : List Rl => ts.any (Rl.flag f)) (stp (pTerm l) f s)) (F1 := fun ts : List Rt => ts.any f) (fun _ (u : Rr) => f u.to_ || u.body.any (Rl.flag f)) (fun _ => rfl)
        (fun c x u j h => by
          obtain ⟨_, _, _, h⟩ := Pr.bnd_inv h
          obtain ⟨_, _, _, h⟩ := Pr.bnd_inv h
          obtain ⟨rfl, _⟩ := ret_inv h
          simp [Bool.or_assoc]) fun c _ =>
        stp_chain (r := fun s => stp (pList l 5 (pLit l)) (fun ts : List Rl => ts.any (Rl.flag f)) s) (F1 := f) (fun _ (u : Rr) => u.body.any (Rl.flag f)) (fun _ => rfl)
          (fun d x u j h => by
            obtain ⟨_, _, _, h⟩ := Pr.bnd_inv h
            obtain ⟨rfl, _⟩ := ret_inv h
            rfl) fun d _ => stp_ret _
theorem got_rule {l : List UInt8} (f : Rt → Bool) {st : St} {u : Rr} (h : Got (pRule l) st u) : Got (pTerm l) st u.home ∧ Got (pText l) (stp (pTerm l) f st) u.pred ∧ Got (pList l 48 (pTerm l)) (stp (pText l) noF (stp (pTerm l) f st)) u.args ∧ Got (pTerm l) (stp (pList l 48 (pTerm l)) (fun ts => ts.any f) (stp (pText l) noF (stp (pTerm l) f st))) u.to_ ∧
    Got (pList l 5 (pLit l)) (stp (pTerm l) f (stp (pList l 48 (pTerm l)) (fun ts => ts.any f) (stp (pText l) noF (stp (pTerm l) f st)))) u.body := by
  obtain ⟨a, h1, h⟩ := got_bnd f h
  obtain ⟨b, h2, h⟩ := got_bnd noF h
  obtain ⟨c, h3, h⟩ := got_bnd (fun ts => ts.any f) h
  obtain ⟨d, h4, h⟩ := got_bnd f h
  obtain ⟨e, h5, rfl⟩ := got_ret h
  exact ⟨h1, h2, h3, h4, h5⟩
end Go.Proofs.Ytghhdbkgibpebaa

/-
  Lists that are read part by part: the reader's states, and what was got. No memory.
-/
namespace Go.Proofs.Ytghhdbkgibpebaa
open Go.RowKit Go.Sort

abbrev anyF {α : Type} (f : α → Bool) (vs : List α) : Bool := vs.any f
theorem stp_many_succ {α : Type} (p : Pr α) (f : α → Bool) (k : Nat) (st : St) : stp (pMany p (k + 1)) (anyF f) st = stp p f (stp (pMany p k) (anyF f) st) :=
  stp_chain (r := fun s => stp p f s) (F1 := anyF f) (fun _ (u : List α) => match u.getLast? with | some x => f x | none => false) (fun _ => rfl)
    (fun xs x u j h => by
      obtain ⟨v, i, _, h2⟩ := Pr.bnd_inv h
      obtain ⟨rfl, _⟩ := ret_inv h2
      simp [anyF, List.any_append]) fun xs _ => by
    rw [stp_ret]
    congr 1
    funext v
    simp
theorem stp_many_zero {α : Type} (p : Pr α) (f : α → Bool) (st : St) : stp (pMany p 0) (anyF f) st = st := by
  rcases st with e | ⟨x, g⟩
  · rfl
  · rw [stp_ok (v := []) (j := x) rfl]; simp [anyF]
theorem got_many_succ {α : Type} {p : Pr α} {f : α → Bool} {k : Nat} {st : St} {ys : List α} (h : Got (pMany p (k + 1)) st ys) : ∃ xs x, Got (pMany p k) st xs ∧ Got p (stp (pMany p k) (anyF f) st) x ∧ ys = xs ++ [x] := by
  obtain ⟨xs, h1, h2⟩ := got_bnd (anyF f) h
  obtain ⟨x, h3, rfl⟩ := got_ret h2
  exact ⟨xs, x, h1, h3, rfl⟩
theorem many_err {α : Type} {p : Pr α} {f : α → Bool} {k n : Nat} {st : St} {e : Int} (h : stp (pMany p k) (anyF f) st = .error e) (hn : k ≤ n) : stp (pMany p n) (anyF f) st = .error e := by
  induction n with
  | zero => obtain rfl : k = 0 := by omega
            exact h
  | succ n ih =>
    by_cases hk : k = n + 1
    · subst hk; exact h
    · rw [stp_many_succ, ih (by omega)]; rfl
theorem st_list {α : Type} {l : List UInt8} {m : Int} {p : Pr α} {F : List α → Bool} {st : St} (s : Int) (h : ∀ n, Got (pCount l m) st n → s = n) : stp (pList l m p) F st = stp (pMany p s.toNat) F (stp (pCount l m) noF st) :=
  stp_chain (r := fun t => stp (pMany p s.toNat) F t) (F1 := noF) (fun _ => F) (fun _ => rfl) (fun _ _ _ _ _ => rfl) fun n hn => by rw [h n hn]
theorem got_list {α : Type} {l : List UInt8} {m : Int} {p : Pr α} {st : St} {vs : List α} (s : Int) (h : ∀ n, Got (pCount l m) st n → s = n) (hv : Got (pList l m p) st vs) : Got (pMany p s.toNat) (stp (pCount l m) noF st) vs := by
  obtain ⟨n, h1, h2⟩ := got_bnd noF hv
  rw [h n h1]; exact h2
theorem got_no {α : Type} {p : Pr α} {F : α → Bool} {st : St} {e : Int} {v : α} (h : stp p F st = .error e) : ¬ Got p st v := fun hv => by
  obtain ⟨x, g, j, rfl, hj⟩ := hv
  rw [stp_ok hj] at h; cases h
theorem count_le {l : List UInt8} {m : Int} {st : St} {n : Int} (h : Got (pCount l m) st n) : 0 ≤ n ∧ n ≤ m := by
  obtain ⟨x, g, j, _, hj⟩ := h
  have := pCount_range hj
  omega
end Go.Proofs.Ytghhdbkgibpebaa
