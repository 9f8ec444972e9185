/-
  A reader in memory: bytes, a place, the first error, a mark. What the program's reader does: texts, numbers, counts, kinds.
-/
import Derived.Test.YtghhdbkgibpebaaRw
import Derived.Test.YtghhdbkgibpebaaText
import Derived.Test.YtghhdbkgibpebaaTk
import Derived.Deep.QuietTactic
import Derived.BigQuiet
namespace Go.Proofs.Ytghhdbkgibpebaa
open Go.RowKit Go.Sort

/-- where a reader is: behind an error, or at a place, with its mark -/
abbrev St := Except Int (Int × Bool)
def stp {α : Type} (p : Pr α) (f : α → Bool) (st : St) : St :=
  match st with
  | .error e => .error e
  | .ok (x, h) =>
    match p x with
    | .error e => .error e
    | .ok (v, j) => .ok (j, h || f v)
def Got {α : Type} (p : Pr α) (st : St) (v : α) : Prop := ∃ x h j, st = .ok (x, h) ∧ p x = .ok (v, j)
def Pos (l : List UInt8) (st : St) : Prop := ∀ x h, st = .ok (x, h) → 0 ≤ x ∧ x ≤ l.length
def noF {α : Type} (_ : α) : Bool := false
theorem stp_err {α : Type} (p : Pr α) (f : α → Bool) (e : Int) : stp p f (.error e) = .error e := rfl
theorem stp_ok {α : Type} {p : Pr α} {f : α → Bool} {x j : Int} {h : Bool} {v : α} (hp : p x = .ok (v, j)) : stp p f (.ok (x, h)) = .ok (j, h || f v) := by simp only [stp, hp]
theorem stp_no {α : Type} {p : Pr α} {f : α → Bool} {x e : Int} {h : Bool} (hp : p x = .error e) : stp p f (.ok (x, h)) = .error e := by simp only [stp, hp]
theorem got_err {α : Type} {p : Pr α} {e : Int} {v : α} (h : Got p (.error e) v) : False := by obtain ⟨_, _, _, h, _⟩ := h; cases h
theorem got_ok {α : Type} {p : Pr α} {x : Int} {g : Bool} {v : α} (h : Got p (.ok (x, g)) v) : ∃ j, p x = .ok (v, j) := by
  obtain ⟨x', h', j, h1, h2⟩ := h
  cases h1; exact ⟨j, h2⟩

/-- the state that the cells tell -/
def stOf (x e : Int) (h : Bool) : St := if e = 0 then .ok (x, h) else .error e
/-- A READER in block R -/
structure Rd (ty : TypeId) (w : World) (R : Nat) (a : Option Addr) (c : Nat) (l : List UInt8) (st : St) : Prop where
  obj : ∃ x e h, w.heap[R]? = some (.cells #[.slice a l.length c, .int .i64 x, .int .i64 e, .bool h] ty) ∧ st = stOf x e h
  holds : Holds w a c l
  low : ∀ ad, a = some ad → 0 < l.length → ad.block < R
  len : l.length ≤ 281474976710656
  rng : ∀ x h, st = .ok (x, h) → -9223372036854775808 ≤ x ∧ x ≤ 9223372036854775807
theorem But.holds0 {h : Nat} {w w' : World} (x : But h w w') {a : Option Addr} {c : Nat} {l : List UInt8} (hl : Holds w a c l) (hne : ∀ ad, a = some ad → 0 < l.length → ad.block ≠ h) : Holds w' a c l :=
  ⟨hl.1, hl.2.1, fun ad ha j u hu => by
    have hc := hl.2.2 ad ha j u hu
    have hj : 0 < l.length := by have := (List.getElem?_eq_some_iff.1 hu).1; rw [cs_length] at this; omega
    rw [World.cell?_of_block (w := w) (x.block _ (cell_block hc) (by rw [addr_add_block]; exact hne ad ha hj))]
    exact hc⟩
theorem Rd.lt {ty : TypeId} {w : World} {R : Nat} {a : Option Addr} {c : Nat} {l : List UInt8} {st : St} (h : Rd ty w R a c l st) : R < w.heap.size := by
  obtain ⟨x, e, g, h1, _⟩ := h.obj; exact heap_lt h1
theorem Rd.but {ty : TypeId} {w w' : World} {R V : Nat} {a : Option Addr} {c : Nat} {l : List UInt8} {st : St} (h : Rd ty w R a c l st) (hb : But V w w') (hV : R < V) : Rd ty w' R a c l st := by
  obtain ⟨x, e, g, h1, h2⟩ := h.obj
  exact ⟨⟨x, e, g, hb.heap (by omega) h1, h2⟩, hb.holds0 h.holds (fun ad ha h0 => by have := h.low ad ha h0; omega), h.low, h.len, h.rng⟩
theorem Rd.below {ty : TypeId} {w w' : World} {R : Nat} {a : Option Addr} {c : Nat} {l : List UInt8} {st : St} (h : Rd ty w R a c l st) (hb : Below w.heap.size w w') : Rd ty w' R a c l st := by
  obtain ⟨x, e, g, h1, h2⟩ := h.obj
  exact ⟨⟨x, e, g, below_heap hb h1, h2⟩, h.holds.below hb, h.low, h.len, h.rng⟩
/-- its own block written anew -/
theorem Rd.set {ty : TypeId} {w w' : World} {R : Nat} {a : Option Addr} {c : Nat} {l : List UInt8} {st st' : St} (h : Rd ty w R a c l st) (hb : But R w w') (x e : Int) (g : Bool) (hH : w'.heap[R]? = some (.cells #[.slice a l.length c, .int .i64 x, .int .i64 e, .bool g] ty)) (hs : st' = stOf x e g)
    (hr : ∀ x h, st' = .ok (x, h) → -9223372036854775808 ≤ x ∧ x ≤ 9223372036854775807) : Rd ty w' R a c l st' :=
  ⟨⟨x, e, g, hH, hs⟩, hb.holds0 h.holds (fun ad ha h0 => by have := h.low ad ha h0; omega), h.low, h.len, hr⟩
theorem pos_stp {α : Type} {p : Pr α} {f : α → Bool} {l : List UInt8} {st : St} (hp : ∀ x v j, p x = .ok (v, j) → 0 ≤ j ∧ j ≤ l.length) : Pos l (stp p f st) := by
  intro x h hs
  unfold stp at hs
  split at hs
  · cases hs
  · split at hs
    · cases hs
    · rename_i v j hj
      cases hs; exact hp _ _ _ hj
theorem pos_snd {α : Type} {p : Pr α} {B : α → List UInt8} {f : α → Bool} {l : List UInt8} {st : St} (hp : Snd l p B) (h : Pos l st) : Pos l (stp p f st) := by
  intro x g hs
  rcases st with e | ⟨y, g'⟩
  · cases hs
  · cases hj : p y with
    | error e => rw [stp_no hj] at hs; cases hs
    | ok r =>
      obtain ⟨v, j⟩ := r
      rw [stp_ok hj] at hs
      cases hs
      have h0 := h y g' rfl
      have := hp y v _ h0.1 hj
      omega
theorem rng_of {l : List UInt8} {st : St} (h : Pos l st) (hl : l.length ≤ 281474976710656) : ∀ x h, st = .ok (x, h) → -9223372036854775808 ≤ x ∧ x ≤ 9223372036854775807 := fun x g hs => by
  have := h x g hs; omega
theorem st_text (l : List UInt8) (x : Int) (h : Bool) : stp (pText l) noF (.ok (x, h)) = stOf (Pm.tx l x).2.1 (Pm.tx l x).2.2 h := by
  by_cases he : (Pm.tx l x).2.2 = 0 <;> simp [stp, pText, stOf, noF, he]
theorem st_int (l : List UInt8) (x : Int) (h : Bool) : stp (pInt l) noF (.ok (x, h)) = stOf (Pm.rd l x).2.1 (Pm.rd l x).2.2 h := by
  by_cases he : (Pm.rd l x).2.2 = 0 <;> simp [stp, pInt, stOf, noF, he]
theorem st_count (l : List UInt8) (m x : Int) (h : Bool) : stp (pCount l m) noF (.ok (x, h)) = stOf (Pm.ct l x m).2.1 (Pm.ct l x m).2.2 h := by
  by_cases he : (Pm.ct l x m).2.2 = 0 <;> simp [stp, pCount, stOf, noF, he]
theorem pos_text (l : List UInt8) (st : St) : Pos l (stp (pText l) noF st) := pos_stp fun x v j h => by have := pText_range h; omega
theorem pos_int (l : List UInt8) (st : St) : Pos l (stp (pInt l) noF st) := pos_stp fun x v j h => by have := pInt_range h; omega
theorem pos_count (l : List UInt8) (m : Int) (st : St) : Pos l (stp (pCount l m) noF st) := pos_stp fun x v j h => by have := pCount_range h; omega

abbrev ptr (R : Nat) : Value := .pointer (some ⟨R, 0, none⟩)

set_option maxRecDepth 100000 in
set_option maxHeartbeats 2000000 in
theorem text_r (R : Nat) (a : Option Addr) (c : Nat) (l : List UInt8) (st : St) (w : World) (h : Rd 69 w R a c l st) :
    Calls Try.prog 65 #[ptr R] w fun e w' => ∃ s, e = .returned (str s) ∧ (∀ v, Got (pText l) st v → s = v) ∧ Rd 69 w' R a c l (stp (pText l) noF st) ∧ But R w w' := by
  have mixed : Try.prog.follows .mixedOrders = true := by kernel_rfl
  obtain ⟨x, er, g, H, hst⟩ := h.obj
  have b0 := heap_cell H 0; have b1 := heap_cell H 1; have b2 := heap_cell H 2
  simp at b0 b1 b2
  by_cases he : er = 0
  · subst he
    obtain rfl : st = .ok (x, g) := hst
    have hr := h.rng x g rfl
    have hT := fun n => text_any a c l x (w.drewN n) (h.holds.below (Grew.drewN w n).below) h.len hr.1 hr.2
    have hS := st_text l x g
    have hG : ∀ v, Got (pText l) (.ok (x, g)) v → (Pm.tx l x).1 = v := fun v hv => by
      obtain ⟨j, hj⟩ := got_ok hv
      rw [pText_inv hj]
    have hP := rng_of (pos_text l (.ok (x, g))) h.len
    rw [hS] at hP ⊢
    generalize Pm.tx l x = r at *
    obtain ⟨s, j, e⟩ := r
    simp only [textOf] at hT hG hP ⊢
    have HG := hideP hG; have HP := hideP hP; clear hG hP hS
    go_enter Try.func65, Try.ntmps65
    go_wp2_with fail
    go_quiet (first | (go_at_call 97; refine (hT _).mono fun _ _ hh => ⟨hh.1, _, hh.2.symm⟩))
    have hb1 := (Grew.drewN w nq).below
    have H1 := below_heap hb1 H
    have h1 := h.below hb1
    clear b0 b1 b2 hT H
    go_wp2_with (first
      | (refine wpList_store_cel rfl 3 _ _ rfl R 1 4 69 (.int .i64 j) #[.slice a l.length c, .int .i64 j, .int .i64 0, .bool g] rfl rfl H1 rfl (by decide) (by kernel_rfl) rfl rfl ?_; intro w2 H2 B2)
      | (refine wpList_store_cel rfl 30 _ _ rfl R 2 4 69 (.int .i64 e) #[.slice a l.length c, .int .i64 j, .int .i64 e, .bool g] rfl rfl H2 rfl (by decide) (by kernel_rfl) rfl rfl ?_; intro w3 H3 B3))
    go_ret
    exact ⟨s, rfl, HG.out, h1.set (B2.trans B3) j e g H3 rfl HP.out, (But.of_below hb1).trans (B2.trans B3)⟩
  · have hq : (er != 0) = true := by simpa using he
    have hs : st = .error er := by rw [hst]; unfold stOf; rw [if_neg he]
    have hk := h
    subst hs
    clear he hst
    go_enter Try.func65, Try.ntmps65
    go_wp2_with fail
    go_ret
    exact ⟨[], rfl, fun v hv => (got_err hv).elim, hk, But.refl _ _⟩
end Go.Proofs.Ytghhdbkgibpebaa
