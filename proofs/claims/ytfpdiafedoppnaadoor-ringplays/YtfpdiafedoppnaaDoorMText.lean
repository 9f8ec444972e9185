/-
  The contracts of Text, the program's and the reference's: the domain's bytes as pack lays them, and the bytes behind them, in memory of their own.
-/
import Derived.Test.YtfpdiafedoppnaaDoorPutEx
import Derived.Test.YtfpdiafedoppnaaDoorMm
namespace Go.Proofs.YtfpdiafedoppnaaDoor
open Go.RowKit

set_option maxRecDepth 100000 in
set_option maxHeartbeats 800000 in
theorem text_any (d : List UInt8) (b : Option Addr) (c : Nat) (l : List UInt8) (w : World) (hb : Holds w b c l) (hr : 10 + d.length + l.length ≤ 140737488355328) :
    Calls Tryd.prog 39 #[str d, .slice b l.length c] w fun e w' =>
      ∃ g cap, e = .returned (.slice (some ⟨g, 0, none⟩) (Mm.text d l).length cap) ∧ Own w' w.heap.size g (Mm.text d l).length cap (Mm.text d l) ∧ Below w.heap.size w w' := by
  have hv := Pm.vb_len10 _ (Pm.tb_lt (d.length : Int) (by omega) (by omega))
  have P := putText_any none 0 [] d w (Holds.nil w) (by simp; omega)
  have hT : Mm.text d l = [] ++ Pm.vb (Pm.tb d.length) ++ d ++ l := by rw [Mm.text_def, List.nil_append]
  have hL : ([] ++ Pm.vb (Pm.tb d.length) ++ d).length ≤ 10 + d.length := by simp only [List.length_append, List.length_nil]; omega
  rw [hT]
  clear hT hv
  simp only [List.length_nil] at P
  generalize [] ++ Pm.vb (Pm.tb (d.length : Int)) ++ d = L at *
  have HP := hideP P
  clear P
  go_enter Tryd.func39, Tryd.ntmps39
  go_wp2_with fail
  refine HP.out.mono ?_
  clear HP
  rintro e w1 ⟨g1, c1, rfl, -, ho1, B1⟩
  have hb1 := hb.below B1
  go_wp2_with (at_builtin; refine wpList_append_bytes _ rfl _ _ rfl w.heap.size g1 L.length c1 L l b l.length c rfl ho1 rfl rfl hb1 ?b2 ?ap2)
  case b2 => omega
  case ap2 =>
    intro g2 c2 w2 ho2 hb2
    go_wp2
    go_ret
    have e : (L ++ l).length = L.length + l.length := List.length_append
    rw [e]
    exact ⟨g2, c2, rfl, ho2, B1.trans hb2⟩

set_option maxRecDepth 100000 in
set_option maxHeartbeats 800000 in
theorem rtext_any (d : List UInt8) (b : Option Addr) (c : Nat) (l : List UInt8) (w : World) (hb : Holds w b c l) (hr : 10 + d.length + l.length ≤ 140737488355328) :
    Calls Tryd.prog 43 #[str d, .slice b l.length c] w fun e w' =>
      ∃ g cap, e = .returned (.slice (some ⟨g, 0, none⟩) (Mm.text d l).length cap) ∧ Own w' w.heap.size g (Mm.text d l).length cap (Mm.text d l) ∧ Below w.heap.size w w' := by
  have hv := Pm.vb_len10 _ (Pm.tb_lt (d.length : Int) (by omega) (by omega))
  have P := rputText_any none 0 [] d w (Holds.nil w) (by simp; omega)
  have hT : Mm.text d l = [] ++ Pm.vb (Pm.tb d.length) ++ d ++ l := by rw [Mm.text_def, List.nil_append]
  have hL : ([] ++ Pm.vb (Pm.tb d.length) ++ d).length ≤ 10 + d.length := by simp only [List.length_append, List.length_nil]; omega
  rw [hT]
  clear hT hv
  simp only [List.length_nil] at P
  generalize [] ++ Pm.vb (Pm.tb (d.length : Int)) ++ d = L at *
  have HP := hideP P
  clear P
  go_enter Tryd.func43, Tryd.ntmps43
  go_wp2_with fail
  refine HP.out.mono ?_
  clear HP
  rintro e w1 ⟨g1, c1, rfl, ho1, B1⟩
  have hb1 := hb.below B1
  go_wp2_with (at_builtin; refine wpList_append_bytes _ rfl _ _ rfl w.heap.size g1 L.length c1 L l b l.length c rfl ho1 rfl rfl hb1 ?b2 ?ap2)
  case b2 => omega
  case ap2 =>
    intro g2 c2 w2 ho2 hb2
    go_wp2
    go_ret
    have e : (L ++ l).length = L.length + l.length := List.length_append
    rw [e]
    exact ⟨g2, c2, rfl, ho2, B1.trans hb2⟩

theorem text_length (d b : List UInt8) (h : d.length ≤ 281474976710656) : (Mm.text d b).length ≤ 10 + d.length + b.length := by
  have hv := Pm.vb_len10 _ (Pm.tb_lt (d.length : Int) (by omega) (by omega))
  rw [Mm.text_def, List.length_append, List.length_append]; omega
/-- told by an answer of its own length -/
theorem text_ex (d : List UInt8) (b : Option Addr) (c n m : Nat) (l T : List UInt8) (w : World) (hn : l.length = n) (hb : Holds w b c l) (hr : 10 + d.length + n ≤ 140737488355328) (hT : Mm.text d l = T) (hm : T.length = m) :
    Calls Tryd.prog 39 #[str d, .slice b n c] w fun e w' => ∃ g cap, e = .returned (.slice (some ⟨g, 0, none⟩) m cap) ∧ Own w' w.heap.size g m cap T ∧ Below w.heap.size w w' := by
  subst hn hT hm
  exact text_any d b c l w hb hr
theorem rtext_ex (d : List UInt8) (b : Option Addr) (c n m : Nat) (l T : List UInt8) (w : World) (hn : l.length = n) (hb : Holds w b c l) (hr : 10 + d.length + n ≤ 140737488355328) (hT : Mm.text d l = T) (hm : T.length = m) :
    Calls Tryd.prog 43 #[str d, .slice b n c] w fun e w' => ∃ g cap, e = .returned (.slice (some ⟨g, 0, none⟩) m cap) ∧ Own w' w.heap.size g m cap T ∧ Below w.heap.size w w' := by
  subst hn hT hm
  exact rtext_any d b c l w hb hr
end Go.Proofs.YtfpdiafedoppnaaDoor
