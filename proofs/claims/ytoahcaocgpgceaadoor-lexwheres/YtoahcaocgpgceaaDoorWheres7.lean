/-
  LexWheres: its walk.
-/
import Derived.Test.YtoahcaocgpgceaaDoorLv
namespace Go.Proofs.YtoahcaocgpgceaaDoor
open Go.RowKit Go.Lib Go.Shelf

set_option maxRecDepth 100000 in
set_option maxHeartbeats 2000000 in
theorem lexWheres_walk (l : List UInt8) (x : Int) (w : World) (hL : Laid w) (hr : l.length ≤ 140737488351232) (hx0 : -9223372036854775808 ≤ x) (hx1 : x ≤ 9223372036854775807) :
    Calls Tryd.prog 4 #[str l, .int .i64 x] w fun e w' => e = .returned (.bool true) ∧ Below w.heap.size w w' := by
  have hsz := str_size l
  have LV := hideP (live_at w hL)
  have W1 : Hid (∀ W, Calls Tryd.prog 13 #[str l, .int .i64 x] W fun e w' => e = .returned (.tuple #[.int .i64 (Lx.line l (Lx.clamp l.length x) : Int), .int .i64 ((Lx.clamp l.length x : Int) - Lx.last l (Lx.clamp l.length x))]) ∧ W = w') := fun W => lwhere_at l x W (by omega) hx0 hx1
  have W2 : Hid (∀ W, Calls Tryd.prog 14 #[str l, .int .i64 x] W fun e w' => e = .returned (.tuple #[.int .i64 (Lx.line l (Lx.clamp l.length x) : Int), .int .i64 ((Lx.clamp l.length x : Int) - Lx.last l (Lx.clamp l.length x))]) ∧ W = w') := fun W => rwhere_at l x W (by omega) hx0 hx1
  generalize (Lx.clamp l.length x : Int) - Lx.last l (Lx.clamp l.length x) = y at *
  generalize Lx.line l (Lx.clamp l.length x) = n at *
  rcases Nat.lt_or_ge 10000 l.length with hb | hb
  · have hb' : (l.length : Int) > 10000 := by omega
    go_enter Tryd.func4, Tryd.ntmps4
    go_wp2_with (first
      | (go_at_call 12; refine LV.out.mono ?_; rintro e w4 ⟨rfl, b4⟩))
    go_ret
    exact ⟨rfl, b4⟩
  · have hb' : ¬ (l.length : Int) > 10000 := by omega
    go_enter Tryd.func4, Tryd.ntmps4
    go_wp2_with (first
      | (go_at_call 13; refine (W1.out _).mono ?_; rintro e w1 ⟨rfl, rfl⟩)
      | (go_at_call 14; refine (W2.out _).mono ?_; rintro e w1 ⟨rfl, rfl⟩)
      | (go_at_call 12; refine LV.out.mono ?_; rintro e w4 ⟨rfl, b4⟩))
    go_ret
    exact ⟨rfl, b4⟩
end Go.Proofs.YtoahcaocgpgceaaDoor
