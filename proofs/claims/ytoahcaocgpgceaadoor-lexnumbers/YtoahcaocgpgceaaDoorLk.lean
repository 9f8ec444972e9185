/-
  Whether two tokens are the same; the reference's Like of two lists that are the same.
-/
import Derived.Deep.QuietTactic
import Derived.BigQuiet
import Derived.Laws.StructEq
import Derived.Test.YtoahcaocgpgceaaDoorTk
namespace Go.Proofs.YtoahcaocgpgceaaDoor
open Go.RowKit Go.Lib Go.Shelf

abbrev tagg (t : Lx.Tok) : Value := .agg #[.int .i64 t.kind, str t.text, .int .i64 t.n, .int .i64 (t.pl : Int)]
def sameTok (t u : Lx.Tok) : Bool := (t.kind == u.kind) && ((t.text == u.text) && ((t.n == u.n) && ((t.pl : Int) == (u.pl : Int))))
theorem sameTok_self (t : Lx.Tok) : sameTok t t = true := by simp [sameTok]
theorem eqTok (t u : Lx.Tok) (w : World) : (Op.equalIn 10000 33 (tagg t) (tagg u)).run Tryd.prog w = .ok (sameTok t u) w := by
  rw [run_equalIn_struct w 9999 33 _ _ (by kernel_rfl) (by kernel_rfl)]
  simp only [Program.fieldsOf, Tryd.underlying33, Op.eqFields]
  simp [part, Tryd.isAgg3, Tryd.isAgg9, run_equalIn_int w 9998 _ _ _ _ _ Tryd.underlying3, run_equalIn_string w 9998 _ _ _ Tryd.underlying9, sameTok]
  by_cases h1 : t.kind = u.kind <;> by_cases h2 : t.text = u.text <;> by_cases h3 : t.n = u.n <;> by_cases h4 : (t.pl : Int) = (u.pl : Int) <;> simp [h1, h2, h3, h4]
theorem eqSelf (t : Lx.Tok) (w : World) : (Op.equalIn 10000 33 (tagg t) (tagg t)).run Tryd.prog w = .ok true w := by rw [eqTok, sameTok_self]

theorem tok_cells {w : World} {b o c : Nat} {ys : List Lx.Tok} (h : Row kT w (some ⟨b, o, none⟩) c ys) (k : Nat) (hk : k < ys.length) :
    w.cell? ⟨b, o + k * 4, none⟩ = some (.int .i64 ys[k].kind) ∧ w.cell? ⟨b, o + k * 4 + 1, none⟩ = some (str ys[k].text) ∧ w.cell? ⟨b, o + k * 4 + 2, none⟩ = some (.int .i64 ys[k].n) ∧ w.cell? ⟨b, o + k * 4 + 3, none⟩ = some (.int .i64 (ys[k].pl : Int)) := by
  have hr := h.range k hk
  exact ⟨hr 0 _ rfl, hr 1 _ rfl, hr 2 _ rfl, hr 3 _ rfl⟩

set_option maxRecDepth 100000 in
set_option maxHeartbeats 2000000 in
theorem like_at (a a' : Option Addr) (c c' : Nat) (ys : List Lx.Tok) (w : World) (hx : Row kT w a c ys) (hy : Row kT w a' c' ys) :
    Calls Tryd.prog 11 #[.slice a ys.length c, .slice a' ys.length c'] w fun e w' => e = .returned (.bool true) ∧ Below w.heap.size w w' := by
  have mixed : Tryd.prog.follows .mixedOrders = true := by kernel_rfl
  have hf := hx.few
  have r1 := hx.room
  have r2 := hy.room
  go_enter Tryd.func11, Tryd.ntmps11
  go_wp2_with fail
  go_loopw [5] (fun v wr => ∃ k : Nat, v = .int .i64 (k : Int) ∧ k ≤ ys.length ∧ Below w.heap.size w wr) (fun v _ => ys.length - (Lib.intOf v).toNat)
  case atStart => exact ⟨0, rfl, Nat.zero_le _, Below.refl _ _⟩
  case round =>
    obtain ⟨k, rfl, hk, hb⟩ := hrel
    rcases Nat.lt_or_ge k ys.length with hlt | hge
    · have q2 : (k : Int) < (ys.length : Int) := by omega
      obtain ⟨P1, O1, rfl⟩ := hx.addr (by omega)
      obtain ⟨P2, O2, rfl⟩ := hy.addr (by omega)
      obtain ⟨a1, a2, a3, a4⟩ := tok_cells (hx.below hb (Nat.le_refl _)) k hlt
      obtain ⟨d1, d2, d3, d4⟩ := tok_cells (hy.below hb (Nat.le_refl _)) k hlt
      have E := eqSelf ys[k]
      generalize ys[k] = t at *
      go_wp2_with fail
      go_quiet (fail)
      go_wp2_with fail
      exact ⟨⟨k + 1, by go_num, by omega, hb.trans ((Grew.drewN wr nq).below.mono hb.size)⟩, by simp [Lib.intOf]; omega⟩
    · have q2 : ¬ (k : Int) < (ys.length : Int) := by omega
      go_wp2_with fail
      go_ret
      exact ⟨rfl, hb⟩
end Go.Proofs.YtoahcaocgpgceaaDoor
