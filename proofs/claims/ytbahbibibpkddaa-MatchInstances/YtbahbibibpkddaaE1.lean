/-
  Bindings in memory: a row of the call's own, or one that is full; one binding more.
-/
import Derived.Test.YtbahbibibpkddaaFc
import Derived.Test.YtbahbibibpkddaaLb
import Derived.Test.YtbahbibibpkddaaOw
import Derived.Test.YtbahbibibpkddaaTv
import Derived.Test.YtbahbibibpkddaaVt
import Derived.Test.YtbahbibibpkddaaMc
namespace Go.Proofs.Ytbahbibibpkddaa
open Go.RowKit Go.Lib Go.Shelf

abbrev Bd := List UInt8 × K
theorem Try.iB : (Try.prog.info? 57).map (fun i => (i.zero, i.size, i.bytes)) = some (some (.agg #[.string .empty, .bool false, .int .i64 0, .string .empty]), bK.k, 48) := by kernel_rfl
/-- bindings in a row of the call's own -/
def OwnB (base : Nat) (w : World) (v : Value) (L : List Bd) : Prop := w.ownsRow base 57 bK.k v L.length (L.flatMap bK.enc)
/-- bindings that may be appended to: of the call's own, or full -/
def EnvAt (base : Nat) (w : World) (v : Value) (L : List Bd) : Prop := OwnB base w v L ∨ ∃ b, v = .slice (some b) L.length L.length ∧ ∀ W, Below base w W → Row bK W (some b) L.length L
theorem EnvAt.nil (base : Nat) (w : World) : EnvAt base w (.slice none 0 0) [] := .inl (World.ownsRow_nil _ _ _ _)
theorem EnvAt.full {base : Nat} {w : World} {a : Option Addr} {L : List Bd} (h : ∀ W, Below base w W → Row bK W a L.length L) : EnvAt base w (.slice a L.length L.length) L := by
  cases a with
  | none =>
    obtain ⟨rfl, _⟩ := (h w (Below.refl _ _)).void rfl
    exact EnvAt.nil base w
  | some b => exact .inr ⟨b, rfl, h⟩
theorem EnvAt.next {base : Nat} {w w' : World} {v : Value} {L : List Bd} (h : EnvAt base w v L) (b : Below base w w') (s : Safe 57 w w') : EnvAt base w' v L := by
  rcases h with h | ⟨ad, rfl, h⟩
  · exact .inl (ownsRow_keep h s)
  · exact .inr ⟨ad, rfl, fun W hW => h W (b.trans hW)⟩
theorem EnvAt.then {base : Nat} {w w' : World} {v : Value} {L : List Bd} (h : EnvAt base w v L) (b : Below w.heap.size w w') (hb : base ≤ w.heap.size) : EnvAt base w' v L := h.next (b.mono hb) (Safe.below b)
theorem EnvAt.row {base : Nat} {w : World} {v : Value} {L : List Bd} (h : EnvAt base w v L) (hl : L.length ≤ 4398046510976) : ∃ a c, v = .slice a L.length c ∧ Row bK w a c L := by
  rcases h with h | ⟨ad, rfl, h⟩
  · obtain ⟨a, c, hv, R, _⟩ := own_row (D := bK) h hl
    exact ⟨a, c, hv, R.row⟩
  · exact ⟨_, _, rfl, h w (Below.refl _ _)⟩
theorem EnvAt.row' {base : Nat} {w : World} {a : Option Addr} {n c : Nat} {L : List Bd} (h : EnvAt base w (.slice a n c) L) (hl : L.length ≤ 4398046510976) : n = L.length ∧ Row bK w a c L := by
  obtain ⟨a', c', e, R⟩ := h.row hl
  cases e
  exact ⟨rfl, R⟩

theorem wpList_append_env (w : World) {ops : Array Oper} {rest : List Oper} {o : Oper} {a : Act} {Q : Exit → Act → World → Prop} (hgd : o.guard = none) (s x : Operand)
    (ho : o.op = .call { callee := .builtin .append, args := #[s, x], argTypes := #[26, 26] })
    (base : Nat) (ao : Option Addr) (c : Nat) (L : List Bd) (bd : Bd) (ad : Addr) (hs : a.eval s = .slice ao L.length c) (hE : EnvAt base w (.slice ao L.length c) L) (hx : a.eval x = .slice (some ad) 1 1) (hl : Row bK w (some ad) 1 [bd]) (hb : base ≤ w.heap.size) (hfew : L.length ≤ 1000000)
    (h : ∀ a' c' w', EnvAt base w' (.slice a' (L ++ [bd]).length c') (L ++ [bd]) → Below base w w' → (∀ ty : TypeId, ty ≠ 57 → Safe ty w w') → wpList Try.prog ops Q rest (a.put o.dst (.slice a' (L ++ [bd]).length c')) w') : wpList Try.prog ops Q (o :: rest) a w := by
  have hf2 : (L ++ [bd]).length ≤ 4398046510976 := by simp only [List.length_append, List.length_cons, List.length_nil]; omega
  rcases hE with hO | ⟨b, e, R⟩
  · refine wpList_append_rec bK w hgd s x 26 57 ho _ 48 Try.underlying26 Try.iB rfl (by decide) base _ L [bd] (some ad) 1 1 hs hO hx rfl hl hb (by simp only [List.length_cons, List.length_nil]; omega) ?_
    intro v5 w5 o5 g5
    obtain ⟨a5, c5, rfl, _, _⟩ := own_row (D := bK) (xs := L ++ [bd]) o5 hf2
    exact h a5 c5 w5 (.inl o5) (own_below hO g5 hb) (fun ty hn => Safe.grown hO g5 hn)
  · obtain ⟨i0, hi, hz0, hz1, hz2⟩ := info_parts Try.iB
    cases e
    have R0 := R w (Below.refl _ _)
    have hn : ([bd].flatMap bK.enc).length = 1 * i0.size := by rw [hz1, flat_len bK.enc bK.k bK.len]; rfl
    have hol : (L.flatMap bK.enc).length = L.length * i0.size := by rw [hz1, flat_len bK.enc bK.k bK.len]
    have hr := fun ty => run_append_grow (P := Try.prog) w 26 ty 57 i0 _ Try.underlying26 hi hz0 b L.length L.length (L.flatMap bK.enc) hol (R0.cells b rfl) ad 1 1 ([bd].flatMap bK.enc) hn (hl.cells ad rfl) (by omega) (by omega) (growslice_fits (by omega) (by rw [hz2]; omega))
    refine wpList_plain hgd fun _ hK => ?_
    unfold Oper.wp execOp
    simp only [ho, resolve, invoke, builtin, Sem.run_bind, Sem.run_pure, Result.andThen_ok, List.map_toArray, List.map_cons, List.map_nil, hs, hx, hr]
    refine hK _ _ ?_
    have A : Below w.heap.size w (w.drew.alloc (.cells ((L.flatMap bK.enc).toArray ++ ([bd].flatMap bK.enc).toArray ++ Builtin.zeroCells (Value.agg #[.string .empty, .bool false, .int .i64 0, .string .empty]).cells (grownCap w (L.length + 1) L.length 57 - (L.length + 1))) 57)) := Below.then (Below.refl _ _).drew (below_alloc _ _)
    have hlen : (L ++ [bd]).length = L.length + 1 := by simp
    have hO : OwnB base (w.drew.alloc (.cells ((L.flatMap bK.enc).toArray ++ ([bd].flatMap bK.enc).toArray ++ Builtin.zeroCells (Value.agg #[.string .empty, .bool false, .int .i64 0, .string .empty]).cells (grownCap w (L.length + 1) L.length 57 - (L.length + 1))) 57)) (.slice (some ⟨w.heap.size, 0, none⟩) (L ++ [bd]).length (grownCap w (L.length + 1) L.length 57)) (L ++ [bd]) := by
      have hge := grownCap_ge w (L.length + 1) L.length 57
      have hcm : grownCap w (L.length + 1) L.length 57 ≤ maxLen := grownCap_le_maxLen w (L.length + 1) L.length 57 (by unfold maxLen; omega)
      have hk : bK.k = 4 := rfl
      refine ⟨flat_len bK.enc bK.k bK.len _, .inr ⟨w.heap.size, _, _, rfl, hb, heap_alloc_new w.drew _, by rw [hlen]; exact hge, hcm, ?_, ?_⟩⟩
      · simp only [Array.size_append, List.size_toArray, size_zeroCells, flat_len bK.enc bK.k bK.len, List.length_cons, List.length_nil, hk]
        show L.length * 4 + (0 + 1) * 4 + (grownCap w (L.length + 1) L.length 57 - (L.length + 1)) * 4 = _
        omega
      · simp only [Array.toList_append, List.append_assoc]
        rw [← List.append_assoc, ← List.flatMap_append, hlen, show (L.length + 1) * bK.k = ((L ++ [bd]).flatMap bK.enc).length by rw [flat_len bK.enc bK.k bK.len, hlen]]
        exact List.take_left
    rw [hlen] at hO h
    exact h _ _ _ (.inl hO) (A.mono hb) (fun ty _ => Safe.below A)
end Go.Proofs.Ytbahbibibpkddaa
