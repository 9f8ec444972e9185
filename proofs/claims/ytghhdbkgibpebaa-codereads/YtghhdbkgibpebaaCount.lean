/-
  The contracts of Count and Text, the project's and the reference's: both answer as the reading functions Pm.ct and Pm.tx do.
-/
import Derived.Test.YtghhdbkgibpebaaRefRead
namespace Go.Proofs.Ytghhdbkgibpebaa
open Go.RowKit

theorem hideIt {p : Prop} (h : p) : Hid p := h

/-- what Text returns -/
abbrev textOf (r : List UInt8 × Int × Int) : Value := .tuple #[str r.1, .int .i64 r.2.1, .int .i64 r.2.2]

set_option maxRecDepth 100000 in
set_option maxHeartbeats 800000 in
theorem count_any (a : Option Addr) (c : Nat) (l : List UInt8) (x m : Int) (w : World) (ha : Holds w a c l) (hm : l.length ≤ maxLen) (h0 : -9223372036854775808 ≤ x) (h1 : x ≤ 9223372036854775807) :
    Calls Try.prog 108 #[.slice a l.length c, .int .i64 x, .int .i64 m] w fun e w' => e = .returned (three (Pm.ct l x m)) ∧ w = w' := by
  have hR := int_any a c l x w ha hm h0 h1
  unfold Pm.ct
  generalize Pm.rd l x = R at *
  have HR := hideIt hR
  clear hR
  obtain ⟨n, j, er⟩ := R
  simp only
  by_cases he : er = 0
  · subst he
    by_cases hn : n < 0
    · go_enter Try.func108, Try.ntmps108
      go_wp2_with fail
      refine HR.out.mono ?_
      rintro e w1 ⟨rfl, rfl⟩
      go_wp2
      go_ret3
      exact ⟨by simp, rfl⟩
    · by_cases hn2 : m < n
      · go_enter Try.func108, Try.ntmps108
        go_wp2_with fail
        refine HR.out.mono ?_
        rintro e w1 ⟨rfl, rfl⟩
        go_wp2
        go_ret3
        exact ⟨by simp, rfl⟩
      · go_enter Try.func108, Try.ntmps108
        go_wp2_with fail
        refine HR.out.mono ?_
        rintro e w1 ⟨rfl, rfl⟩
        go_wp2
        go_ret3
        exact ⟨by simp, rfl⟩
  · have he2 : (er != 0) = true := by rw [bne_iff_ne]; exact he
    go_enter Try.func108, Try.ntmps108
    go_wp2_with fail
    refine HR.out.mono ?_
    rintro e w1 ⟨rfl, rfl⟩
    go_wp2
    go_ret3
    exact ⟨by simp, rfl⟩
end Go.Proofs.Ytghhdbkgibpebaa
