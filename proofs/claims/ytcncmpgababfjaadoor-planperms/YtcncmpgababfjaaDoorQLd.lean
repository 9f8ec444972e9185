/-
  What the package-level variables hold that the road reads; the library's Atoi, Itoa, Count and LastIndexByte in this program.
-/
import Derived.Test.YtcncmpgababfjaaDoorQWd
import Derived.Test.YtcncmpgababfjaaDoorQPa
import Derived.Test.YtcncmpgababfjaaDoorQShelf
import Derived.Lib.LaidTab
namespace Go.Proofs.YtcncmpgababfjaaDoor
open Go.RowKit Go.Lib Go.Shelf

structure Laid (w : World) : Prop where
  tab : Lib.TabIs Tryd.prog w "internal/strconv.uint64pow10" .u64 Lib.pow10Tab
  syn : ∃ te pe, w.cell? ⟨0, 0, none⟩ = some (.iface te pe)
  rng : ∃ te pe, w.cell? ⟨1, 0, none⟩ = some (.iface te pe)
theorem Tryd.gTab : Tryd.prog.globalNamed "internal/strconv.uint64pow10" = some 2 := by kernel_rfl
theorem Laid.below {w w' : World} (h : Laid w) (hb : Below w.heap.size w w') : Laid w' := by
  obtain ⟨h1, ⟨t2, p2, h2⟩, ⟨t3, p3, h3⟩⟩ := h
  refine ⟨?_, ⟨t2, p2, by rw [hb.cell (cell_block h2)]; exact h2⟩, ⟨t3, p3, by rw [hb.cell (cell_block h3)]; exact h3⟩⟩
  unfold Lib.TabIs World.var? at *
  rw [Tryd.gTab] at *
  simp only [Option.bind_some] at *
  have hl : 2 < w.heap.size := by
    rcases Nat.lt_or_ge 2 w.heap.size with h' | h'
    · exact h'
    · simp [h'] at h1
  rw [hb.block 2 hl]; exact h1
theorem Laid.drew {w : World} (h : Laid w) : Laid w.drew := h.below ((Below.refl _ _).drew)

theorem atoi_ok (s : List UInt8) (v : Int) (w : World) (hr : s.length ≤ 281474976710656) (h : Lib.atoiAll s = .ok v) :
    Calls Tryd.prog 45 #[str s] w fun e w' => e = .returned (.tuple #[.int .i64 v, .nilIface]) ∧ Below w.heap.size w w' := by
  refine (Any.strconv_Atoi_ok Tryd.atoiLays ⟨s.toArray⟩ (by rw [str_size]; omega) v (by simpa using h) w).mono ?_
  rintro e w' ⟨rfl, rfl | ⟨t, rfl⟩⟩
  · exact ⟨rfl, Below.refl _ _⟩
  · exact ⟨rfl, Lib.bytesWorld_below _ _ _⟩
theorem atoi_no (s : List UInt8) (w : World) (hr : s.length ≤ 281474976710656) (hL : Laid w) (h : ¬ ∃ v, Lib.atoiAll s = .ok v) :
    Calls Tryd.prog 45 #[str s] w fun e w' => (∃ (n : Int) (N : Nat), e = .returned (.tuple #[.int .i64 n, .iface 99 (.pointer (some ⟨N, 0, none⟩))])) ∧ Below w.heap.size w w' := by
  cases h1 : Lib.atoiAll s with
  | ok v => exact absurd ⟨v, h1⟩ h
  | range =>
    obtain ⟨te, pe, hc⟩ := hL.rng
    refine (Any.strconv_Atoi_range Tryd.atoiLays ⟨s.toArray⟩ (by rw [str_size]; exact hr) (by simpa using h1) _ w hc (.inr ⟨te, pe, rfl⟩)).mono ?_
    rintro e w' ⟨N, rfl, _, _, hb⟩
    exact ⟨⟨_, N, rfl⟩, hb⟩
  | _ =>
    obtain ⟨te, pe, hc⟩ := hL.syn
    refine (Any.strconv_Atoi_syntax Tryd.atoiLays ⟨s.toArray⟩ (by rw [str_size]; exact hr) (by simpa using h1) _ w hc (.inr ⟨te, pe, rfl⟩)).mono ?_
    rintro e w' ⟨N, rfl, _, _, hb⟩
    exact ⟨⟨_, N, rfl⟩, hb⟩
theorem itoa_at (n : Int) (w : World) (h0 : -9223372036854775808 ≤ n) (h1 : n ≤ 9223372036854775807) (hL : Laid w) :
    Calls Tryd.prog 46 #[.int .i64 n] w fun e w' => e = .returned (str (Lib.itoa n)) ∧ Below w.heap.size w w' := by
  refine (Any.strconv_Itoa Tryd.itoaLays n h0 h1 w hL.tab).mono ?_
  rintro e w' ⟨rfl, k, os, rfl⟩
  exact ⟨rfl, Grew.below ⟨k, os, rfl⟩⟩
end Go.Proofs.YtcncmpgababfjaaDoor
