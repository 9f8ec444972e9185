/-
  What ModelFixed, ModelGrows and ModelTwice ask of least models; a row of one's own past a store elsewhere.
-/
import Derived.Test.YtdehimbfcilhpaaGreatDoorQCz13
import Derived.Test.YtdehimbfcilhpaaGreatDoorQMinus
import Derived.Test.YtdehimbfcilhpaaGreatDoorQSame
import Derived.Test.YtdehimbfcilhpaaGreatDoorQHas
namespace Go.Proofs.YtdehimbfcilhpaaGreatDoor
open Go.RowKit Go.Lib Go.Shelf

theorem OwF.butLies {w w' : World} {base q : Nat} {a : Option Addr} {cap : Nat} {xs : List Fv} (h : OwF w base a cap xs) (b : But q w w') (hq : q < base) : Lies w' a cap xs :=
  ⟨h.room, h.most, h.few, h.void, fun ad ha => by
    obtain ⟨g, rfl, h1, h2, hr⟩ := h.row ad ha
    intro j u hu
    have hr' := hr.cells j u hu
    rw [Addr.add_lit] at hr' ⊢
    rw [b.cell (p := ⟨g, 0 + j, none⟩) (show g ≠ q by omega) h2]
    exact hr'⟩
theorem map_nil {l : List Fv} (h : l.map Fv.f = []) : l = [] := by cases l with
  | nil => rfl
  | cons _ _ => cases h
theorem lstF_few {d : Ml.Wd} {l : List Ru} {b n : List F} (h : Ml.LstF d l (sortF b) (some n)) : Ml.Few d l (sortF b) := h.few (Nat.le_of_not_lt fun hn => by cases h.none_of hn)
theorem lstF_few2 {d : Ml.Wd} {l : List Ru} {b n : List F} (h : Ml.LstF d l (sortF b) (some n)) : Ml.Few d l (sortF n) := lstF_few (h.twice (sortF_SS _))
theorem fixed_base {d : Ml.Wd} {l : List Ru} {b n : List F} (h : Ml.LstF d l (sortF b) (some n)) : minusF b n = [] := minus_nil fun x hx => (h.lst.got (sortF_SS _)).2.1 x ((mem_sortF _ _).2 hx)
theorem fixed_closed {d : Ml.Wd} {l : List Ru} {b n : List F} (h : Ml.LstF d l (sortF b) (some n)) : Ml.closedB d l n = true := (Ml.closedB_iff _ _ _).2 (h.lst.got (sortF_SS _)).2.2.1
theorem fixed_grows {d : Ml.Wd} {l l2 : List Ru} {b b2 n n2 : List F} (h : Ml.LstF d l (sortF b) (some n)) (h2 : Ml.LstF d l2 (sortF b2) (some n2)) (hl : ∀ r ∈ l, r ∈ l2) (hb : ∀ x ∈ b, x ∈ b2) : minusF n n2 = [] := minus_nil (Ml.grows h.lst h2.lst hl hb)
theorem fixed_same {d : Ml.Wd} {l : List Ru} {b n : List F} (h : Ml.LstF d l (sortF b) (some n)) (hc : Ml.closedB d l b = true) : likeB (sortF n) (sortF b) = true := by
  have g := h.lst.got (sortF_SS _)
  have h1 := h.lst.least (sortF_SS _) (c := b) (fun x hx => (mem_sortF _ _).1 hx) ((Ml.closedB_iff _ _ _).1 hc)
  exact likeB_true ((sortF_eq_iff n b).2 fun x => ⟨h1 x, fun hx => g.2.1 x ((mem_sortF _ _).2 hx)⟩)
end Go.Proofs.YtdehimbfcilhpaaGreatDoor
