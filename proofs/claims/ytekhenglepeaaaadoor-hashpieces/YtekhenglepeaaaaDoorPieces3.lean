/-
  The walk of HashPieces, in the frame's words.
-/
import Derived.Test.YtekhenglepeaaaaDoorPieces2
import Derived.Test.YtekhenglepeaaaaDoorRowsF
namespace Go.Proofs.YtekhenglepeaaaaDoor
open Go.RowKit

theorem hashPieces_walk (a : Option Addr) (n c : Nat) (R : Nat → List UInt8) (A : Nat → Option Addr) (C : Nat → Nat) (w : World) (hL : Laid w) (h : RowsAt w a n R A C) :
    Calls Tryd.prog 4 #[.slice a n c] w fun e w' => e = .returned (.bool true) ∧ Below w.heap.size w w' := by
  by_cases h0 : n = 0
  · subst h0
    exact hashPieces_none a c w hL
  · obtain ⟨ad, rfl, hc, _⟩ := h.2 0 (by omega)
    obtain ⟨b, o, sp⟩ := ad
    have : sp = none := by simpa [Addr.add] using World.cell?_spot hc
    subst this
    refine hashPieces_some b o n c R A C w hL h.1 fun r hr => ?_
    obtain ⟨ad, e, h1, h2, h3⟩ := h.2 r hr
    cases e
    rw [Addr.add_lit] at h1
    exact ⟨h1, h2, h3⟩
end Go.Proofs.YtekhenglepeaaaaDoor
