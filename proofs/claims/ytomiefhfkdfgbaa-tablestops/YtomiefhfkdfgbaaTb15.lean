/-
  The mathematics of layer 15: a table of facts, in order, each once; what is put and taken; what is found. No program in this text.
-/
import Derived.Test.YtomiefhfkdfgbaaFm
namespace Go.Proofs.Ytomiefhfkdfgbaa
namespace Tb

/-- Put: 0 it is there now, 1 it may not be, 2 it was there, 3 there is no room (ok: which facts may be; m: how many there may be) -/
def putE (ok : F → Bool) (m : Nat) (l : List F) (f : F) : Nat := if ok f = false then 1 else if hasF l f = true then 2 else if m ≤ l.length then 3 else 0
def put (ok : F → Bool) (m : Nat) (l : List F) (f : F) : List F := if putE ok m l f = 0 then ins l f else l
def take (l : List F) (f : F) : List F := l.filter fun x => decide (cF x f ≠ 0)
def puts (ok : F → Bool) (m : Nat) (l fs : List F) : List F := fs.foldl (put ok m) l
def takes (l fs : List F) : List F := fs.foldl take l
/-- an empty text stands for any -/
def any (a b : List UInt8) : Bool := a.isEmpty || decide (a = b)
def of (at_ by_ pred : List UInt8) (l : List F) : List F := l.filter fun f => any at_ f.at_ && (any by_ f.by_ && any pred f.pred)
def find (pred : List UInt8) (place : Int) (c : K) (l : List F) : List F := l.filter fun f => decide (f.pred = pred) && (decide (0 ≤ place) && match f.ks[place.toNat]? with
  | some k => decide (cK k c = 0)
  | none => false)

theorem putE_zero {ok : F → Bool} {m : Nat} {l : List F} {f : F} : putE ok m l f = 0 ↔ ok f = true ∧ f ∉ l ∧ l.length < m := by
  unfold putE
  cases h1 : ok f with
  | false => simp
  | true =>
    by_cases h2 : hasF l f = true
    · simp [h2, (hasF_iff l f).1 h2]
    · have h3 : f ∉ l := fun h => h2 ((hasF_iff l f).2 h)
      by_cases h4 : m ≤ l.length
      · simp [h2, h4]
      · simp [h2, h4, h3]; omega
theorem put_SS {ok : F → Bool} {m : Nat} {l : List F} {f : F} (h : SS l) : SS (put ok m l f) := by
  unfold put; split
  · exact SS_ins h f
  · exact h
theorem mem_put {ok : F → Bool} {m : Nat} {l : List F} {f x : F} : x ∈ put ok m l f ↔ x ∈ l ∨ (x = f ∧ putE ok m l f = 0) := by
  unfold put; split
  · rename_i h; rw [mem_ins]; simp [h]
  · rename_i h; simp [h]
/-- where there is room: what may be is there -/
theorem mem_put_room {ok : F → Bool} {m : Nat} {l : List F} {f x : F} (hr : l.length < m) : x ∈ put ok m l f ↔ x ∈ l ∨ (x = f ∧ ok f = true) := by
  rw [mem_put]
  constructor
  · rintro (h | ⟨h, h2⟩)
    · exact .inl h
    · exact .inr ⟨h, (putE_zero.1 h2).1⟩
  · rintro (h | ⟨rfl, h2⟩)
    · exact .inl h
    · by_cases h3 : x ∈ l
      · exact .inl h3
      · exact .inr ⟨rfl, putE_zero.2 ⟨h2, h3, hr⟩⟩
theorem length_ins : ∀ (l : List F) (f : F), (ins l f).length ≤ l.length + 1
  | [], f => by simp [ins]
  | y :: l, f => by
    unfold ins
    have := length_ins l f
    split <;> (try split) <;> simp only [List.length_cons] at * <;> omega
theorem length_put (ok : F → Bool) (m : Nat) (l : List F) (f : F) : (put ok m l f).length ≤ l.length + 1 := by
  unfold put; split
  · exact length_ins l f
  · omega
theorem length_put_le {ok : F → Bool} {m : Nat} {l : List F} {f : F} (h : l.length ≤ m) : (put ok m l f).length ≤ m := by
  unfold put; split
  · rename_i h2
    have := (putE_zero.1 h2).2.2
    have := length_ins l f
    omega
  · exact h
theorem puts_SS {ok : F → Bool} {m : Nat} : ∀ {fs l : List F}, SS l → SS (puts ok m l fs)
  | [], _, h => h
  | f :: fs, _, h => puts_SS (fs := fs) (put_SS (f := f) h)
theorem mem_puts {ok : F → Bool} {m : Nat} {x : F} : ∀ {fs l : List F}, l.length + fs.length ≤ m → (x ∈ puts ok m l fs ↔ x ∈ l ∨ (x ∈ fs ∧ ok x = true))
  | [], l, _ => by simp [puts]
  | f :: fs, l, h => by
    rw [List.length_cons] at h
    have h1 := length_put ok m l f
    show x ∈ puts ok m (put ok m l f) fs ↔ _
    rw [mem_puts (fs := fs) (by omega), mem_put_room (by omega), List.mem_cons]
    constructor
    · rintro ((h | ⟨rfl, h2⟩) | ⟨h, h2⟩)
      · exact .inl h
      · exact .inr ⟨.inl rfl, h2⟩
      · exact .inr ⟨.inr h, h2⟩
    · rintro (h | ⟨rfl | h, h2⟩)
      · exact .inl (.inl h)
      · exact .inl (.inr ⟨rfl, h2⟩)
      · exact .inr ⟨h, h2⟩
/-- TableOrder: whatever order facts are put in, a table tells the same -/
theorem puts_same {ok : F → Bool} {m : Nat} {fs gs : List F} (hf : fs.length ≤ m) (hg : gs.length ≤ m) (h : ∀ x, x ∈ fs ↔ x ∈ gs) : puts ok m [] fs = puts ok m [] gs :=
  (puts_SS List.Pairwise.nil).uniq (puts_SS List.Pairwise.nil) fun x => by rw [mem_puts (by simpa using hf), mem_puts (by simpa using hg), h x]
theorem puts_sort {ok : F → Bool} {m : Nat} {fs : List F} (hf : fs.length ≤ m) : puts ok m [] fs = sortF (fs.filter ok) :=
  sortF_of (puts_SS List.Pairwise.nil) fun x => by rw [mem_puts (by simpa using hf)]; simp
theorem mem_take {l : List F} {f x : F} : x ∈ take l f ↔ x ∈ l ∧ x ≠ f := by simp [take, cF_zero]
theorem take_SS {l : List F} (h : SS l) (f : F) : SS (take l f) := h.filter _
theorem take_minus {l : List F} (h : SS l) (f : F) : take l f = minusF l [f] :=
  (take_SS h f).uniq (minusF_SS l [f]) fun x => by rw [mem_take, mem_minusF]; simp
theorem takes_SS : ∀ {fs l : List F}, SS l → SS (takes l fs)
  | [], _, h => h
  | f :: fs, _, h => takes_SS (fs := fs) (take_SS h f)
theorem mem_takes {x : F} : ∀ {fs l : List F}, x ∈ takes l fs ↔ x ∈ l ∧ x ∉ fs
  | [], l => by simp [takes]
  | f :: fs, l => by
    show x ∈ takes (take l f) fs ↔ _
    rw [mem_takes (fs := fs), mem_take, List.mem_cons, not_or]
    exact ⟨fun h => ⟨h.1.1, h.1.2, h.2⟩, fun h => ⟨⟨h.1, h.2.1⟩, h.2.2⟩⟩
/-- TableParts: what is found, taken away, leaves the others -/
theorem takes_filter {l : List F} (h : SS l) (p : F → Bool) : takes l (l.filter p) = l.filter fun x => !p x :=
  (takes_SS h).uniq (h.filter _) fun x => by
    rw [mem_takes, List.mem_filter, List.mem_filter]
    constructor
    · rintro ⟨h1, h2⟩
      exact ⟨h1, by cases hp : p x with
        | true => exact absurd ⟨h1, hp⟩ h2
        | false => rfl⟩
    · rintro ⟨h1, h2⟩
      exact ⟨h1, fun h3 => by rw [h3.2] at h2; cases h2⟩
theorem nodup_of {l : List F} (h : SS l) : l.Nodup := by
  rw [List.nodup_iff_pairwise_ne]
  exact h.imp fun {x y} hxy e => by subst e; rw [cF_self] at hxy; omega
/-- of what was found each is there till it is taken, and is then there no more -/
theorem takes_at {l : List F} (h : SS l) (p : F → Bool) {a b : List F} {f : F} (he : l.filter p = a ++ f :: b) : f ∈ takes l a ∧ f ∉ take (takes l a) f := by
  have hn := nodup_of (h.filter p)
  rw [he] at hn
  refine ⟨mem_takes.2 ⟨(List.mem_filter.1 (show f ∈ l.filter p by rw [he]; simp)).1, fun hm => ?_⟩, fun hm => (mem_take.1 hm).2 rfl⟩
  exact (List.nodup_append.1 hn).2.2 f hm f (List.mem_cons_self ..) rfl
/-- the law's other order: the k-th from the end, k turned: each number below n once -/
theorem turn_mod (n : Nat) (hn : 0 < n) (a : Int) : (a.tmod n + n).tmod n = a % n := by
  have hp : (0 : Int) < n := by omega
  have h1 : -(n : Int) < a.tmod n := Int.lt_tmod_of_pos a hp
  rw [Int.tmod_eq_emod_of_nonneg (by omega), Int.add_emod_right]
  have e := Int.tmod_add_mul_tdiv a n
  have : a.tmod n = a - n * a.tdiv n := by omega
  rw [this, Int.sub_mul_emod_self_left]
theorem turn_ix (n : Nat) (hn : 0 < n) (turn : Int) (i : Nat) : (((i : Int) + turn.tmod n).tmod n + n).tmod n = ((i : Int) + turn) % n := by
  rw [turn_mod n hn]
  have e := Int.tmod_add_mul_tdiv turn n
  have : (i : Int) + turn.tmod n = (i + turn) - n * turn.tdiv n := by omega
  rw [this, Int.sub_mul_emod_self_left]
theorem turn_all (n : Nat) (hn : 0 < n) (turn : Int) (j : Nat) (hj : j < n) : ∃ i : Nat, i < n ∧ ((i : Int) + turn) % n = (j : Int) := by
  have hp : (0 : Int) < n := by omega
  refine ⟨(((j : Int) - turn) % n).toNat, ?_, ?_⟩
  · have h1 := Int.emod_nonneg ((j : Int) - turn) (show (n : Int) ≠ 0 by omega)
    have h2 := Int.emod_lt_of_pos ((j : Int) - turn) hp
    omega
  · rw [Int.toNat_of_nonneg (Int.emod_nonneg _ (by omega)), Int.emod_add_emod, Int.sub_add_cancel]
    exact Int.emod_eq_of_lt (by omega) (by omega)
end Tb
end Go.Proofs.Ytomiefhfkdfgbaa
