/-
  Lists of which a beginning is turned; a place reckoned out of any number; rules of which a variable is renamed, in memory.
-/
import Derived.Test.YtefajadolgmpdaaGreatDoorQMf0
namespace Go.Proofs.YtefajadolgmpdaaGreatDoor
open Go.RowKit

def pm {α : Type} (f : α → α) (j : Nat) (l : List α) : List α := (l.take j).map f ++ l.drop j
theorem pm_zero {α : Type} (f : α → α) (l : List α) : pm f 0 l = l := by simp [pm]
theorem pm_all {α : Type} (f : α → α) {j : Nat} {l : List α} (h : l.length ≤ j) : pm f j l = l.map f := by simp [pm, List.take_of_length_le h, List.drop_of_length_le h]
theorem pm_len {α : Type} (f : α → α) (j : Nat) (l : List α) : (pm f j l).length = l.length := by simp [pm]; omega
theorem pm_get {α : Type} (f : α → α) {j : Nat} {l : List α} (h : j < l.length) : (pm f j l)[j]'(by rw [pm_len]; exact h) = l[j] := by
  unfold pm
  rw [List.getElem_append_right (by simp; omega)]
  simp [List.length_take, Nat.min_eq_left (Nat.le_of_lt h)]
theorem pm_set {α : Type} (f : α → α) {j : Nat} {l : List α} (h : j < l.length) : (pm f j l).set j (f l[j]) = pm f (j + 1) l := by
  unfold pm
  have hl : ((l.take j).map f).length = j := by simp; omega
  rw [List.set_append_right _ _ (by omega), hl, Nat.sub_self, List.drop_eq_getElem_cons h, List.set_cons_zero, List.take_succ_eq_append_getElem h, List.map_append, List.append_assoc]
  rfl
theorem tmod_ix (i : Int) (n : Nat) (hn : 0 < n) : (-(n : Int) < i.tmod n ∧ i.tmod n < n) ∧ ∃ I : Nat, (i.tmod n + n).tmod n = (I : Int) ∧ I < n := by
  have hp : (0 : Int) < n := by omega
  have h1 : -(n : Int) < i.tmod n := Int.lt_tmod_of_pos i hp
  have h2 : i.tmod n < n := Int.tmod_lt_of_pos i hp
  refine ⟨⟨h1, h2⟩, ((i.tmod n + n).tmod n).toNat, ?_, ?_⟩
  · rw [Int.toNat_of_nonneg (Int.tmod_nonneg _ (by omega))]
  · have := Int.tmod_lt_of_pos (i.tmod n + n) hp
    have h3 := Int.tmod_nonneg (a := i.tmod n + n) (b := n) (by omega)
    omega

/-- a literal, a rule in memory with another name for a variable -/
def lrn (f z : List UInt8) (l : Lv) : Lv := { l with by_ := Ck.ren f z l.by_, args := l.args.map (Ck.ren f z), at_ := Ck.ren f z l.at_ }
def rrn (f z : List UInt8) (x : Rv) : Rv := { x with home := Ck.ren f z x.home, args := x.args.map (Ck.ren f z), to_ := Ck.ren f z x.to_, body := x.body.map (lrn f z) }
theorem rrn_r (f z : List UInt8) (x : Rv) : (rrn f z x).r = Ck.renR f z x.r := by
  unfold rrn Rv.r Ck.renR
  simp only [List.map_map]
  rfl
/-- no variable is the empty text -/
theorem wv_ne {l : List (List UInt8)} {t : Tm} (h : ∀ v ∈ l, v ≠ []) : ∀ v ∈ Ck.wv l t, v ≠ [] := fun v hv => by
  unfold Ck.wv at hv
  split at hv
  · exact h v hv
  · rename_i hn
    rcases List.mem_append.1 hv with hv | hv
    · exact h v hv
    · rw [List.mem_singleton] at hv; subst hv
      exact fun e => hn (.inl e)
theorem fold_ne : ∀ {ts : List Tm} {l : List (List UInt8)}, (∀ v ∈ l, v ≠ []) → ∀ v ∈ ts.foldl Ck.wv l, v ≠ []
  | [], _, h => h
  | t :: r, l, h => fold_ne (ts := r) (l := Ck.wv l t) (wv_ne h)
theorem wl_ne {l : List (List UInt8)} {y : Lt} (h : ∀ v ∈ l, v ≠ []) : ∀ v ∈ Ck.wl l y, v ≠ [] := wv_ne (fold_ne (wv_ne h))
theorem folds_ne : ∀ {ys : List Lt} {l : List (List UInt8)}, (∀ v ∈ l, v ≠ []) → ∀ v ∈ ys.foldl Ck.wl l, v ≠ []
  | [], _, h => h
  | y :: r, l, h => folds_ne (ys := r) (l := Ck.wl l y) (wl_ne h)
theorem vars_ne {r : Ru} : ∀ v ∈ Ck.vars r, v ≠ [] := folds_ne (wv_ne (fun v h => by simp at h))
/-- a program in which one rule's variable has another name is answered as it was -/
theorem ren_ans {xs zs : List Rv} {I : Nat} {f : List UInt8} (hI : I < zs.length) (hzs : zs.map Rv.r = xs.map Rv.r) (hf : f ∈ Ck.vars zs[I].r) (hv : [90, 122, 57] ∉ Ck.vars zs[I].r) (ha : ∀ t ∈ zs[I].args, t.v ≠ [90, 122, 57]) (ht : zs[I].to_.v ≠ [90, 122, 57]) (hn : (Ck.prog (xs.map Rv.r)).1 ≠ 100) :
    Ck.prog ((zs.set I (rrn f [90, 122, 57] zs[I])).map Rv.r) = Ck.prog (xs.map Rv.r) := by
  have hI' : I < (zs.map Rv.r).length := by rw [List.length_map]; exact hI
  have e : (zs.map Rv.r)[I] = zs[I].r := List.getElem_map ..
  rw [← hzs] at hn ⊢
  rw [List.map_set, rrn_r]
  have := Ck.prog_ren (f := f) (z := [90, 122, 57]) (l := zs.map Rv.r) (i := I) (vars_ne f hf) (by decide +kernel) hI' (by rw [e]; exact hv) (by rw [e]; exact ha) (by rw [e]; exact ht) hn
  rw [e] at this
  exact this
end Go.Proofs.YtefajadolgmpdaaGreatDoor
