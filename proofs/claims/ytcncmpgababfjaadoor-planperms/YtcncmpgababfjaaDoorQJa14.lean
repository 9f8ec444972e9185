/-
  The mathematics of layer 14, first half: in which order a rule's literals are looked for. No program in this text.
-/
import Derived.Test.YtcncmpgababfjaaDoorQMc
namespace Go.Proofs.YtcncmpgababfjaaDoor
namespace Pn
open Mt (Tx nul)

/-- is a term known by some variables? -/
def kn (V : List Tx) (t : Tm) : Nat := if nul t = true then 0 else if t.v = [] ∨ t.v ∈ V then 1 else 0
def kns (V : List Tx) (ts : List Tm) : Nat := (ts.map (kn V)).sum
/-- how many terms of a literal are known -/
def cnt (V : List Tx) (y : Lt) : Nat := kn V y.by_ + kns V y.args
/-- a literal's variables -/
def lvs (y : Lt) : List Tx := y.by_.v :: y.at_.v :: y.args.map (·.v)
/-- those of the literal of that number -/
def lvk (r : Ru) (k : Nat) : List Tx := match r.body[k]? with
  | some y => lvs y
  | none => []
/-- those that are known behind the literals of an order -/
def vs (r : Ru) (o : List Nat) : List Tx := r.home.v :: o.flatMap (lvk r)
def ck (r : Ru) (o : List Nat) (k : Nat) : Nat := match r.body[k]? with
  | some y => cnt (vs r o) y
  | none => 0
/-- of the first n numbers that are none of o the least one with the most -/
def pick (c : Nat → Nat) (o : List Nat) : Nat → Option Nat
  | 0 => none
  | n + 1 => match pick c o n with
    | none => if n ∈ o then none else some n
    | some b => if n ∉ o ∧ c b < c n then some n else some b
/-- m literals more -/
def go (r : Ru) : Nat → List Nat → List Nat
  | 0, o => o
  | m + 1, o => match pick (ck r o) o r.body.length with
    | none => o
    | some b => go r m (o ++ [b])
def isNo (r : Ru) (first : Int) : Bool := decide (0 ≤ first ∧ first < (r.body.length : Int))
def ord (r : Ru) (first : Int) : List Nat := if isNo r first = true then go r (r.body.length - 1) [first.toNat] else go r r.body.length []

theorem vs_snoc (r : Ru) (o : List Nat) (k : Nat) : vs r (o ++ [k]) = vs r o ++ lvk r k := by simp [vs, List.flatMap_append]
theorem kn_mem {V W : List Tx} (h : ∀ v, v ≠ [] → (v ∈ V ↔ v ∈ W)) (t : Tm) : kn V t = kn W t := by
  unfold kn
  by_cases hv : t.v = []
  · simp [hv]
  · simp [hv, h t.v hv]
theorem kns_mem {V W : List Tx} (h : ∀ v, v ≠ [] → (v ∈ V ↔ v ∈ W)) (ts : List Tm) : kns V ts = kns W ts := by
  unfold kns
  rw [List.map_congr_left fun t _ => kn_mem h t]
/-- what is known hangs on the set of variables alone -/
theorem cnt_mem {V W : List Tx} (h : ∀ v, v ≠ [] → (v ∈ V ↔ v ∈ W)) (y : Lt) : cnt V y = cnt W y := by
  unfold cnt
  rw [kn_mem h, kns_mem h]

/-- what is picked -/
structure Best (c : Nat → Nat) (o : List Nat) (n b : Nat) : Prop where
  lt : b < n
  out : b ∉ o
  most : ∀ k, k < n → k ∉ o → c k ≤ c b
  least : ∀ k, k < b → k ∉ o → c k < c b
theorem Best.uniq {c : Nat → Nat} {o : List Nat} {n a b : Nat} (h : Best c o n a) (g : Best c o n b) : a = b := by
  rcases Nat.lt_trichotomy a b with h1 | h1 | h1
  · have := g.least a h1 h.out; have := h.most b g.lt g.out; omega
  · exact h1
  · have := h.least b h1 g.out; have := g.most a h.lt h.out; omega
theorem pick_none {c : Nat → Nat} {o : List Nat} : ∀ {n : Nat}, pick c o n = none → ∀ k, k < n → k ∈ o
  | 0, _, k, hk => by omega
  | n + 1, h, k, hk => by
    rw [pick] at h
    cases hp : pick c o n with
    | none =>
      rw [hp] at h
      by_cases hn : n ∈ o
      · rcases Nat.lt_succ_iff_lt_or_eq.1 hk with h1 | h1
        · exact pick_none hp k h1
        · rw [h1]; exact hn
      · simp [hn] at h
    | some b =>
      rw [hp] at h
      by_cases hn : n ∉ o ∧ c b < c n
      · simp [hn] at h
      · simp only [if_neg hn] at h; cases h
theorem pick_some {c : Nat → Nat} {o : List Nat} : ∀ {n b : Nat}, pick c o n = some b → Best c o n b
  | 0, b, h => by cases h
  | n + 1, b, h => by
    rw [pick] at h
    cases hp : pick c o n with
    | none =>
      rw [hp] at h
      by_cases hn : n ∈ o
      · simp [hn] at h
      · simp only [if_neg hn] at h
        obtain rfl : n = b := by injection h
        refine ⟨by omega, hn, fun k hk hko => ?_, fun k hk hko => absurd (pick_none hp k hk) hko⟩
        rcases Nat.lt_succ_iff_lt_or_eq.1 hk with h1 | h1
        · exact absurd (pick_none hp k h1) hko
        · rw [h1]; exact Nat.le_refl _
    | some a =>
      rw [hp] at h
      have ha := pick_some hp
      by_cases hn : n ∉ o ∧ c a < c n
      · simp only [if_pos hn] at h
        obtain rfl : n = b := by injection h
        refine ⟨by omega, hn.1, fun k hk hko => ?_, fun k hk hko => ?_⟩
        · rcases Nat.lt_succ_iff_lt_or_eq.1 hk with h1 | h1
          · have := ha.most k h1 hko; omega
          · rw [h1]; exact Nat.le_refl _
        · have := ha.most k hk hko; omega
      · simp only [if_neg hn] at h
        obtain rfl : a = b := by injection h
        refine ⟨by have := ha.lt; omega, ha.out, fun k hk hko => ?_, ha.least⟩
        rcases Nat.lt_succ_iff_lt_or_eq.1 hk with h1 | h1
        · exact ha.most k h1 hko
        · subst h1
          have : ¬ c a < c k := fun h2 => hn ⟨hko, h2⟩
          omega
theorem pick_of {c : Nat → Nat} {o : List Nat} {n b : Nat} (h : Best c o n b) : pick c o n = some b := by
  cases hp : pick c o n with
  | none => exact absurd (pick_none hp b h.lt) h.out
  | some a => rw [(pick_some hp).uniq h]
theorem nodup_le : ∀ {a b : List Nat}, a.Nodup → (∀ k ∈ a, k ∈ b) → a.length ≤ b.length
  | [], _, _, _ => Nat.zero_le _
  | x :: a, b, ha, hb => by
    obtain ⟨hx, ha⟩ := List.nodup_cons.1 ha
    obtain ⟨s, t, rfl⟩ := List.append_of_mem (hb x (by simp))
    have := nodup_le (b := s ++ t) ha fun k hk => by
      have h1 := hb k (List.mem_cons_of_mem _ hk)
      rcases List.mem_append.1 h1 with h1 | h1
      · exact List.mem_append_left _ h1
      · rcases List.mem_cons.1 h1 with rfl | h1
        · exact absurd hk hx
        · exact List.mem_append_right _ h1
    simp only [List.length_append, List.length_cons] at this ⊢
    omega
/-- numbers below n, each once, fewer than n: one is left -/
theorem left {o : List Nat} {n : Nat} (h : o.length < n) : ∃ k, k < n ∧ k ∉ o := by
  by_cases hx : ∃ k, k < n ∧ k ∉ o
  · exact hx
  · exfalso
    have := nodup_le (a := List.range n) (b := o) List.nodup_range fun k hk => by
      by_cases hk2 : k ∈ o
      · exact hk2
      · exact absurd ⟨k, List.mem_range.1 hk, hk2⟩ hx
    rw [List.length_range] at this
    omega
theorem pick_ex {c : Nat → Nat} {o : List Nat} {n : Nat} (h : o.length < n) : ∃ b, pick c o n = some b ∧ Best c o n b := by
  obtain ⟨k, hk, hko⟩ := left h
  cases hp : pick c o n with
  | none => exact absurd (pick_none hp k hk) hko
  | some b => exact ⟨b, rfl, pick_some hp⟩

/-- an order's beginning: numbers of literals, each once -/
structure Ok (r : Ru) (o : List Nat) : Prop where
  one : o.Nodup
  lt : ∀ k ∈ o, k < r.body.length
theorem Ok.nil (r : Ru) : Ok r [] := ⟨List.nodup_nil, fun _ h => by cases h⟩
theorem Ok.single {r : Ru} {k : Nat} (h : k < r.body.length) : Ok r [k] := ⟨by simp, fun j hj => by rw [List.mem_singleton.1 hj]; exact h⟩
theorem Ok.snoc {r : Ru} {o : List Nat} {b : Nat} {c : Nat → Nat} (h : Ok r o) (hb : Best c o r.body.length b) : Ok r (o ++ [b]) := by
  refine ⟨?_, fun k hk => ?_⟩
  · rw [List.nodup_append]
    refine ⟨h.one, by simp, fun x hx y hy => ?_⟩
    rw [List.mem_singleton.1 hy]
    intro e
    rw [e] at hx
    exact hb.out hx
  · rcases List.mem_append.1 hk with h1 | h1
    · exact h.lt k h1
    · rw [List.mem_singleton.1 h1]; exact hb.lt
theorem go_ok {r : Ru} : ∀ {m : Nat} {o : List Nat}, Ok r o → o.length + m = r.body.length → Ok r (go r m o) ∧ (go r m o).length = r.body.length ∧ ∃ t, go r m o = o ++ t
  | 0, o, h, hl => ⟨h, hl, [], by rw [go, List.append_nil]⟩
  | m + 1, o, h, hl => by
    obtain ⟨b, hp, hb⟩ := pick_ex (c := ck r o) (o := o) (n := r.body.length) (by omega)
    obtain ⟨h1, h2, t, h3⟩ := go_ok (m := m) (h.snoc hb) (by rw [List.length_append, List.length_singleton]; omega)
    have e : go r (m + 1) o = go r m (o ++ [b]) := by rw [go, hp]
    rw [e]
    exact ⟨h1, h2, b :: t, by rw [h3, List.append_assoc]; rfl⟩
theorem go_step {r : Ru} {m : Nat} {o : List Nat} {b : Nat} (h : Best (ck r o) o r.body.length b) : go r (m + 1) o = go r m (o ++ [b]) := by rw [go, pick_of h]
theorem isNo_iff {r : Ru} {first : Int} : isNo r first = true ↔ 0 ≤ first ∧ first < (r.body.length : Int) := by rw [isNo, decide_eq_true_iff]
/-- PlanPerms: each literal once, the first one first -/
theorem ord_ok (r : Ru) (first : Int) : Ok r (ord r first) ∧ (ord r first).length = r.body.length ∧ (0 ≤ first → first < (r.body.length : Int) → (ord r first)[0]? = some first.toNat) := by
  unfold ord
  by_cases h : isNo r first = true
  · rw [if_pos h]
    rw [isNo_iff] at h
    obtain ⟨h1, h2, t, h3⟩ := go_ok (m := r.body.length - 1) (Ok.single (r := r) (k := first.toNat) (by omega)) (by rw [List.length_singleton]; omega)
    exact ⟨h1, h2, fun _ _ => by rw [h3]; rfl⟩
  · rw [if_neg h]
    obtain ⟨h1, h2, _⟩ := go_ok (m := r.body.length) (Ok.nil r) (by simp)
    rw [isNo_iff] at h
    exact ⟨h1, h2, fun h3 h4 => absurd ⟨h3, h4⟩ h⟩
theorem ord_mem (r : Ru) (first : Int) (k : Nat) (hk : k < r.body.length) : k ∈ ord r first := by
  obtain ⟨h1, h2, _⟩ := ord_ok r first
  by_cases h : k ∈ ord r first
  · exact h
  · exfalso
    have := nodup_le (a := ord r first ++ [k]) (b := List.range r.body.length)
      (by rw [List.nodup_append]; exact ⟨h1.one, by simp, fun x hx y hy => by rw [List.mem_singleton.1 hy]; intro e; rw [e] at hx; exact h hx⟩)
      (fun j hj => by
        rcases List.mem_append.1 hj with h3 | h3
        · exact List.mem_range.2 (h1.lt j h3)
        · rw [List.mem_singleton.1 h3]; exact List.mem_range.2 hk)
    rw [List.length_append, List.length_singleton, h2, List.length_range] at this
    omega
end Pn
end Go.Proofs.YtcncmpgababfjaaDoor

/-
  The mathematics of the program's way to an order: by variables the literals that wait, and known terms counted as variables become known.
-/
namespace Go.Proofs.YtcncmpgababfjaaDoor
namespace Pn
open Mt (Tx nul)

/-- the terms of a literal that count -/
def tms (y : Lt) : List Tm := y.by_ :: y.args
def tk (r : Ru) (k : Nat) : List Tm := match r.body[k]? with
  | some y => tms y
  | none => []
theorem cnt_tms (V : List Tx) (y : Lt) : cnt V y = kns V (tms y) := by simp [cnt, kns, tms]
/-- how often a variable stands among terms -/
def nv (v : Tx) (ts : List Tm) : Nat := if v = [] then 0 else (ts.map (·.v)).count v
theorem nv_nil (v : Tx) : nv v [] = 0 := by unfold nv; split <;> simp
theorem nv_snoc (v : Tx) (ts : List Tm) (t : Tm) : nv v (ts ++ [t]) = nv v ts + (if t.v ≠ [] ∧ t.v = v then 1 else 0) := by
  unfold nv
  by_cases h : v = []
  · subst h
    rw [if_pos rfl, if_pos rfl, if_neg (fun h => h.1 h.2)]
  · rw [if_neg h, if_neg h, List.map_append, List.count_append]
    congr 1
    rw [List.map_singleton, List.count_singleton]
    by_cases e : t.v = v
    · rw [if_pos (by simpa using e), if_pos ⟨by rw [e]; exact h, e⟩]
    · rw [if_neg (by simpa using e), if_neg (fun h => e h.2)]
theorem nv_cons (v : Tx) (ts : List Tm) (t : Tm) : nv v (t :: ts) = nv v ts + (if t.v ≠ [] ∧ t.v = v then 1 else 0) := by
  unfold nv
  by_cases h : v = []
  · subst h
    rw [if_pos rfl, if_pos rfl, if_neg (fun h => h.1 h.2)]
  · rw [if_neg h, if_neg h, List.map_cons, List.count_cons]
    congr 1
    by_cases e : t.v = v
    · rw [if_pos (by simpa using e), if_pos ⟨by rw [e]; exact h, e⟩]
    · rw [if_neg (by simpa using e), if_neg (fun h => e h.2)]
theorem kns_snoc (V : List Tx) (ts : List Tm) (t : Tm) : kns V (ts ++ [t]) = kns V ts + kn V t := by simp [kns]
theorem kns_cons (V : List Tx) (ts : List Tm) (t : Tm) : kns V (t :: ts) = kn V t + kns V ts := by simp [kns]
theorem kns_le (V : List Tx) : ∀ ts : List Tm, kns V ts ≤ ts.length
  | [] => Nat.le_refl _
  | t :: ts => by
    rw [kns_cons, List.length_cons]
    have := kns_le V ts
    have h : kn V t ≤ 1 := by unfold kn; split <;> (try split) <;> omega
    omega
theorem kns_app (V : List Tx) (a b : List Tm) : kns V (a ++ b) = kns V a + kns V b := by simp [kns]
theorem nul_v {t : Tm} (h : nul t = true) : t.v = [] := by
  unfold nul at h
  rw [Bool.and_eq_true] at h
  exact List.isEmpty_iff.1 h.1
/-- a variable more that is known -/
theorem kn_snoc (V : List Tx) (v : Tx) (t : Tm) : kn (V ++ [v]) t = kn V t + (if v ∈ V then 0 else if t.v ≠ [] ∧ t.v = v then 1 else 0) := by
  unfold kn
  by_cases hn : nul t = true
  · have hv := nul_v hn
    rw [if_pos hn, if_pos hn, hv]
    split <;> simp
  · rw [if_neg hn, if_neg hn]
    by_cases h0 : t.v = []
    · rw [if_pos (.inl h0), if_pos (.inl h0), h0]
      split <;> simp
    · by_cases h1 : t.v ∈ V
      · rw [if_pos (.inr (List.mem_append_left _ h1)), if_pos (.inr h1)]
        by_cases h2 : v ∈ V
        · rw [if_pos h2]
        · rw [if_neg h2, if_neg (fun h : t.v ≠ [] ∧ t.v = v => h2 (h.2 ▸ h1))]
      · rw [if_neg (fun h : t.v = [] ∨ t.v ∈ V => h.elim h0 h1)]
        by_cases h2 : t.v = v
        · rw [if_pos (.inr (by rw [h2]; simp)), if_neg (by rw [← h2]; exact h1), if_pos ⟨h0, h2⟩]
        · rw [if_neg (fun h => h.elim h0 (fun h => (List.mem_append.1 h).elim h1 (fun h => h2 (by simpa using h)))), if_neg (fun h : t.v ≠ [] ∧ t.v = v => h2 h.2)]
          split <;> rfl
theorem kns_vsnoc (V : List Tx) (v : Tx) : ∀ ts : List Tm, kns (V ++ [v]) ts = kns V ts + (if v ∈ V then 0 else nv v ts)
  | [] => by rw [nv_nil]; simp [kns]
  | t :: ts => by
    rw [kns_cons, kns_cons, kn_snoc, kns_vsnoc V v ts, nv_cons]
    by_cases h : v ∈ V
    · simp only [if_pos h]; omega
    · simp only [if_neg h]; omega

/-- which literals wait for a variable, once for each place: those of the first n -/
def occ (r : Ru) (v : Tx) : Nat → List Nat
  | 0 => []
  | n + 1 => occ r v n ++ List.replicate (nv v (tk r n)) n
theorem occ_lt {r : Ru} {v : Tx} : ∀ {n k : Nat}, k ∈ occ r v n → k < n
  | n + 1, k, h => by
    rcases List.mem_append.1 h with h | h
    · have := occ_lt h; omega
    · have := (List.mem_replicate.1 h).2; omega
theorem occ_count (r : Ru) (v : Tx) (k : Nat) : ∀ n, (occ r v n).count k = if k < n then nv v (tk r k) else 0
  | 0 => by simp [occ]
  | n + 1 => by
    rw [occ, List.count_append, occ_count r v k n, List.count_replicate]
    by_cases h : n = k
    · subst h
      rw [if_neg (Nat.lt_irrefl _), if_pos (Nat.lt_succ_self _)]; simp
    · rw [if_neg (show ¬ (n == k) = true by simpa using h), Nat.add_zero]
      by_cases h2 : k < n
      · rw [if_pos h2, if_pos (by omega)]
      · rw [if_neg h2, if_neg (by omega)]
theorem occ_nil (r : Ru) : ∀ n, occ r [] n = []
  | 0 => rfl
  | n + 1 => by rw [occ, occ_nil r n]; simp [nv]
theorem nv_le (v : Tx) (ts : List Tm) : nv v ts ≤ ts.length := by
  unfold nv
  split
  · exact Nat.zero_le _
  · exact Nat.le_trans List.count_le_length (by simp)
/-- how many terms there are -/
def tot (r : Ru) : Nat → Nat
  | 0 => 0
  | n + 1 => tot r n + (tk r n).length
theorem tot_mono (r : Ru) {a : Nat} : ∀ {b : Nat}, a ≤ b → tot r a ≤ tot r b
  | 0, h => by obtain rfl : a = 0 := by omega
               exact Nat.le_refl _
  | b + 1, h => by
    by_cases e : a = b + 1
    · rw [e]; exact Nat.le_refl _
    · exact Nat.le_trans (tot_mono r (b := b) (by omega)) (Nat.le_add_right _ _)
theorem occ_len (r : Ru) (v : Tx) : ∀ n, (occ r v n).length ≤ tot r n
  | 0 => Nat.le_refl _
  | n + 1 => by
    rw [occ, List.length_append, List.length_replicate, tot]
    have := occ_len r v n
    have := nv_le v (tk r n)
    omega

/-- what waits once terms are let wait for number i -/
def addW (g : Tx → List Nat) (i : Nat) (ts : List Tm) : Tx → List Nat := fun v => g v ++ List.replicate (nv v ts) i
theorem addW_nil (g : Tx → List Nat) (i : Nat) : addW g i [] = g := by funext v; simp [addW, nv_nil]
theorem addW_skip (g : Tx → List Nat) (i : Nat) (ts : List Tm) (t : Tm) (h : t.v = []) : addW g i (ts ++ [t]) = addW g i ts := by
  funext v
  unfold addW
  rw [nv_snoc, if_neg (fun h' => h'.1 h), Nat.add_zero]
theorem addW_snoc (g : Tx → List Nat) (i : Nat) (ts : List Tm) (t : Tm) (h : t.v ≠ []) : addW g i (ts ++ [t]) = fun v => if v = t.v then addW g i ts t.v ++ [i] else addW g i ts v := by
  funext v
  by_cases e : v = t.v
  · subst e
    rw [if_pos rfl]
    unfold addW
    rw [nv_snoc, if_pos ⟨h, rfl⟩, List.replicate_succ', List.append_assoc]
  · rw [if_neg e]
    unfold addW
    rw [nv_snoc, if_neg (fun h' => e h'.2.symm), Nat.add_zero]
theorem addW_app (g : Tx → List Nat) (i : Nat) (a b : List Tm) : addW (addW g i a) i b = addW g i (a ++ b) := by
  funext v
  unfold addW
  rw [List.append_assoc, List.replicate_append_replicate]
  congr 2
  unfold nv
  split
  · rfl
  · rw [List.map_append, List.count_append]
theorem addW_occ (r : Ru) (n : Nat) : addW (fun v => occ r v n) n (tk r n) = fun v => occ r v (n + 1) := rfl

/-- how many terms of each literal are known -/
def kts (r : Ru) (V : List Tx) : List Nat := (List.range r.body.length).map fun k => kns V (tk r k)
theorem kts_len (r : Ru) (V : List Tx) : (kts r V).length = r.body.length := by simp [kts]
theorem kts_get (r : Ru) (V : List Tx) (k : Nat) (h : k < (kts r V).length) : (kts r V)[k] = kns V (tk r k) := by simp [kts]
/-- what waits where some variables are known -/
def wts (r : Ru) (V : List Tx) : Tx → List Nat := fun v => if v ∈ V then [] else occ r v r.body.length
theorem wts_nil (r : Ru) : wts r [] = fun v => occ r v r.body.length := by funext v; simp [wts]
theorem wts_snoc (r : Ru) (V : List Tx) (v : Tx) : wts r (V ++ [v]) = fun u => if u = v then [] else wts r V u := by
  funext u
  unfold wts
  by_cases e : u = v
  · rw [if_pos e, if_pos (by rw [e]; simp)]
  · rw [if_neg e]
    by_cases h : u ∈ V
    · rw [if_pos h, if_pos (List.mem_append_left _ h)]
    · rw [if_neg h, if_neg (fun h' => (List.mem_append.1 h').elim h (fun h' => e (by simpa using h')))]
theorem wts_len (r : Ru) (V : List Tx) (v : Tx) : (wts r V v).length ≤ tot r r.body.length := by
  unfold wts
  split
  · exact Nat.zero_le _
  · exact occ_len r v _
theorem wts_lt {r : Ru} {V : List Tx} {v : Tx} {k : Nat} (h : k ∈ wts r V v) : k < r.body.length := by
  unfold wts at h
  split at h
  · cases h
  · exact occ_lt h
theorem tk_len (r : Ru) {k : Nat} : ∀ {n : Nat}, k < n → (tk r k).length ≤ tot r n
  | n + 1, h => by
    rw [tot]
    by_cases e : k = n
    · rw [e]; omega
    · have := tk_len r (n := n) (k := k) (by omega)
      omega
/-- a count more at each number of a list -/
def bumps (K : List Nat) (l : List Nat) : List Nat := K.mapIdx fun k n => n + l.count k
theorem bumps_nil (K : List Nat) : bumps K [] = K := by
  apply List.ext_getElem?
  intro k
  simp [bumps]
theorem bumps_len (K l : List Nat) : (bumps K l).length = K.length := by simp [bumps]
theorem bumps_get (K l : List Nat) (k : Nat) (h : k < K.length) : (bumps K l)[k]'(by rw [bumps_len]; exact h) = K[k] + l.count k := by simp [bumps]
theorem bumps_snoc (K l : List Nat) (j : Nat) (h : j < K.length) : bumps K (l ++ [j]) = (bumps K l).set j ((bumps K l)[j]'(by rw [bumps_len]; exact h) + 1) := by
  apply List.ext_getElem
  · simp [bumps]
  · intro k h1 h2
    rw [List.getElem_set]
    have hk : k < K.length := by rw [bumps_len] at h1; exact h1
    rw [bumps_get _ _ _ hk, List.count_append]
    by_cases e : j = k
    · subst e
      rw [if_pos rfl, bumps_get _ _ _ hk]; simp; omega
    · rw [if_neg e, bumps_get _ _ _ hk]
      simp [e]
theorem kts_learn (r : Ru) (V : List Tx) (v : Tx) : bumps (kts r V) (wts r V v) = kts r (V ++ [v]) := by
  apply List.ext_getElem
  · rw [bumps_len, kts_len, kts_len]
  · intro k h1 h2
    have hk : k < (kts r V).length := by rw [bumps_len] at h1; exact h1
    rw [bumps_get _ _ _ hk, kts_get, kts_get, kns_vsnoc]
    congr 1
    unfold wts
    by_cases h : v ∈ V
    · rw [if_pos h, if_pos h]; rfl
    · rw [if_neg h, if_neg h, occ_count, if_pos (by rw [kts_len] at hk; exact hk)]
theorem kts_nil (r : Ru) : (List.range r.body.length).map (fun k => if k < r.body.length then kns [] (tk r k) else 0) = kts r [] := by
  unfold kts
  apply List.map_congr_left
  intro k hk
  rw [if_pos (List.mem_range.1 hk)]
theorem kns_nil_kts (r : Ru) (i : Nat) (K : List Nat) (hK : K = (List.range r.body.length).map fun k => if k < i then kns [] (tk r k) else 0) : K.set i (kns [] (tk r i)) = (List.range r.body.length).map fun k => if k < i + 1 then kns [] (tk r k) else 0 := by
  subst hK
  apply List.ext_getElem
  · simp
  · intro k h1 h2
    rw [List.getElem_set]
    by_cases e : i = k
    · subst e; simp
    · rw [if_neg e]
      simp only [List.getElem_map, List.getElem_range]
      by_cases h3 : k < i
      · rw [if_pos h3, if_pos (by omega)]
      · rw [if_neg h3, if_neg (by omega)]
theorem kts_ck (r : Ru) (o : List Nat) (k : Nat) (h : k < r.body.length) : kns (vs r o) (tk r k) = ck r o k := by
  unfold tk ck
  rw [List.getElem?_eq_getElem h]
  exact (cnt_tms _ _).symm
end Pn
end Go.Proofs.YtcncmpgababfjaaDoor
