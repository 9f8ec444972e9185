/-
  The document's own sum, by definition: the contract of the padded text.
-/
import Derived.Test.YtmdeielcoomeeaaDoorOwn2
namespace Go.Proofs.YtmdeielcoomeeaaDoor
open Go.RowKit

theorem hideIt {p : Prop} (h : p) : Hid p := h
theorem len8_take (n j : Nat) (h : j < 8) : (Sm.len8 n).take (j + 1) = (Sm.len8 n).take j ++ [Sm.lenByte n (7 - j)] := by
  have : j = 0 ∨ j = 1 ∨ j = 2 ∨ j = 3 ∨ j = 4 ∨ j = 5 ∨ j = 6 ∨ j = 7 := by omega
  rcases this with rfl | rfl | rfl | rfl | rfl | rfl | rfl | rfl <;> rfl

set_option maxRecDepth 100000 in
set_option maxHeartbeats 1600000 in
theorem refPadded_any (a : Option Addr) (c : Nat) (l : List UInt8) (w : World) (ha : Holds w a c l) (hl : l.length ≤ 140737488352000) :
    Calls Tryd.prog 28 #[.slice a l.length c] w fun e w' => ∃ g cap, e = .returned (.slice (some ⟨g, 0, none⟩) (Sm.pad l).length cap) ∧ Own w' w.heap.size g (Sm.pad l).length cap (Sm.pad l) ∧ Below w.heap.size w w' := by
  have ho0 : Own (w.alloc (.cells #[] 5)) w.heap.size w.heap.size 0 0 [] := own_new w [] _ rfl (by unfold maxLen; simp)
  have hb0 := below_alloc w (.cells #[] 5)
  obtain ⟨N, hN⟩ : ∃ N, N = l.length := ⟨_, rfl⟩
  obtain ⟨z, hz⟩ : ∃ z, z = (119 - N % 64) % 64 := ⟨_, rfl⟩
  have k1 : (N : Int) ≤ 140737488352000 := by omega
  rw [← hN]
  have hNl := hN.symm
  have HN : Hid (N = l.length ∧ z = (119 - N % 64) % 64) := ⟨hN, hz⟩
  have hNl' := hideIt hNl
  have hz64 : z < 64 := by omega
  clear hN hz hNl
  go_enter Tryd.func28, Tryd.ntmps28
  go_wp2_with (at_builtin; refine wpList_append_bytes _ rfl _ _ rfl w.heap.size w.heap.size 0 0 [] l a N c rfl ho0 rfl hNl'.out (ha.below hb0) ?b1 ?ap)
  case b1 => omega
  case ap =>
    intro g1 c1 w1 ho1 hb1
    have B1 := hb0.trans hb1
    have ho1' := ho1.alloc (.cells #[.int .u8 128] 5)
    have hn : Holds (w1.alloc (.cells #[.int .u8 128] 5)) (some ⟨w1.heap.size, 0, none⟩) 1 [128] := holds_new w1 [128] _ _ rfl
    clear ho0 hb0 hb1
    go_wp2_with (at_builtin; refine wpList_append_bytes _ rfl _ _ rfl w.heap.size g1 N c1 l [128] (some ⟨w1.heap.size, 0, none⟩) 1 1 rfl ho1' rfl rfl hn ?b2 ?ap2)
    case b2 => omega
    case ap2 =>
      intro g2 c2 w2 ho2 hb2
      have B2 : Below w.heap.size w w2 := (B1.alloc B1.size _).trans hb2
      clear ho1 ho1' hn hb2 B1
      go_wp2_with fail
      go_loopw [3] (fun v wr => ∃ (g cap k : Nat), v = .slice (some ⟨g, 0, none⟩) (N + 1 + k) cap ∧ k ≤ z ∧ Own wr w.heap.size g (N + 1 + k) cap (l ++ [128] ++ Sm.zeros k) ∧ Below w.heap.size w wr) (fun v _ => N + 1 + z - sliceLen v)
      case atStart =>
        refine ⟨g2, c2, 0, rfl, by omega, ?_, B2⟩
        simpa [Sm.zeros] using ho2
      case round =>
        clear ho2 B2
        obtain ⟨g, cap, k, rfl, hk, ho, B⟩ := hrel
        have q0 : (N : Int) + 1 + (k : Int) ≤ 140737488352100 := by omega
        have HL : Hid (l.length = N) := hNl'
        by_cases hkz : k < z
        · have q1 : ¬ ((N : Int) + 1 + (k : Int)) % 64 = 56 := by have := HN.out; omega
          have ho' := ho.alloc (.cells #[.int .u8 0] 5)
          have hn : Holds (wr.alloc (.cells #[.int .u8 0] 5)) (some ⟨wr.heap.size, 0, none⟩) 1 [0] := holds_new wr [0] _ _ rfl
          go_wp2_with (at_builtin; refine wpList_append_bytes _ rfl _ _ rfl w.heap.size g (N + 1 + k) cap (l ++ [128] ++ Sm.zeros k) [0] (some ⟨wr.heap.size, 0, none⟩) 1 1 rfl ho' rfl rfl hn ?b3 ?ap3)
          case b3 => omega
          case ap3 =>
            intro g3 c3 w3 ho3 hb3
            have B3 : Below w.heap.size w w3 := (B.alloc B.size _).trans hb3
            go_wp2_with fail
            refine ⟨⟨g3, c3, k + 1, by simp [Nat.add_assoc], by omega, ?_, B3⟩, by simp [sliceLen]; omega⟩
            have e : l ++ [128] ++ Sm.zeros (k + 1) = l ++ [128] ++ Sm.zeros k ++ [0] := by
              rw [Sm.zeros, Sm.zeros, List.replicate_succ', ← List.append_assoc]
            rw [e, ← Nat.add_assoc]
            simpa [List.append_assoc] using ho3
        · have e1 : k = z := by omega
          subst e1
          have q1 : ((N : Int) + 1 + (k : Int)) % 64 = 56 := by have := HN.out; omega
          clear hkz hk
          go_wp2_with fail
          have hpad : Hid (Sm.pad l = (l ++ [128] ++ Sm.zeros k) ++ Sm.len8 N) := by
            obtain ⟨h1, h2⟩ := HN.out
            rw [Sm.pad_def, ← h1, ← h2]; trivial
          have hM : Hid ((l ++ [128] ++ Sm.zeros k).length = N + 1 + k) := by
            rw [List.length_append, List.length_append, HL.out, Sm.zeros_length]; rfl
          obtain ⟨M, eM⟩ : ∃ M, M = N + 1 + k := ⟨_, rfl⟩
          rw [← eM] at ho hM
          rw [← eM]
          have hM5 : M ≤ 140737488352100 := by omega
          generalize l ++ [128] ++ Sm.zeros k = Q at ho hpad hM
          have HN2 : Hid (M = N + 1 + k) := eM
          clear eM q0 q1
          go_loopw [3, 5] (fun v x wr => ∃ (g cap j : Nat) (y : Int), v = .slice (some ⟨g, 0, none⟩) (M + j) cap ∧ x = .int .i64 y ∧ y + (j : Int) = 7 ∧ j ≤ 8 ∧ Own wr w.heap.size g (M + j) cap (Q ++ (Sm.len8 N).take j) ∧ Below w.heap.size w wr) (fun _ x _ => (intOf x + 1).toNat)
          case atStart => exact ⟨g, cap, 0, 7, rfl, rfl, rfl, by omega, by simpa using ho, B⟩
          case round =>
            clear ho B
            obtain ⟨g, cap, j, y, rfl, rfl, hy, hj, ho, B⟩ := hrel
            by_cases hj8 : j < 8
            · obtain ⟨kk, rfl⟩ : ∃ kk : Nat, y = (kk : Int) := ⟨y.toNat, by omega⟩
              obtain ⟨m, hm⟩ : ∃ m, m = 8 * kk := ⟨_, rfl⟩
              have r1 : (8 : Int) * (kk : Int) = (m : Int) := by omega
              have r2 : (kk : Int) ≤ 7 := by omega
              have r3 : (m : Int) ≤ 56 := by omega
              have hsp := Sm.lenByte_spell N kk (by omega)
              rw [← hm] at hsp
              have ho' := ho.alloc (.cells #[.int .u8 ((N : Int) * 8 / 2 ^ m % 256)] 5)
              have hn : Holds (wr.alloc (.cells #[.int .u8 ((N : Int) * 8 / 2 ^ m % 256)] 5)) (some ⟨wr.heap.size, 0, none⟩) 1 [Sm.lenByte N kk] := holds_new wr [Sm.lenByte N kk] _ _ (by simp [cs, hsp])
              have HS := hideIt (show kk = 7 - j by omega)
              clear hsp hm
              go_wp2_with (at_builtin; refine wpList_append_bytes _ rfl _ _ rfl w.heap.size g (M + j) cap (Q ++ (Sm.len8 N).take j) [Sm.lenByte N kk] (some ⟨wr.heap.size, 0, none⟩) 1 1 rfl ho' rfl rfl hn ?b4 ?ap4)
              case b4 => omega
              case ap4 =>
                intro g3 c3 w3 ho3 hb3
                have B3 : Below w.heap.size w w3 := (B.alloc B.size _).trans hb3
                go_wp2_with fail
                refine ⟨⟨g3, c3, j + 1, (kk : Int) - 1, by simp [Nat.add_assoc], rfl, by omega, by omega, ?_, B3⟩, by simp [intOf]⟩
                rw [len8_take N j hj8, ← HS.out, ← List.append_assoc, ← Nat.add_assoc]
                simpa [List.append_assoc] using ho3
            · have e8 : j = 8 := by omega
              have r1 : y = -1 := by omega
              have hlen : (Sm.pad l).length = M + j := by
                rw [hpad.out, List.length_append, hM.out, e8]; rfl
              have ho2 : Own wr w.heap.size g (M + j) cap (Sm.pad l) := by
                rw [hpad.out]
                rw [e8] at ho ⊢
                exact ho
              have HL2 := hideIt hlen
              clear hlen ho e8 hy hj hj8
              go_wp2_with fail
              go_ret
              exact ⟨g, cap, by rw [HL2.out]; rfl, by rw [HL2.out]; exact ho2, B⟩
end Go.Proofs.YtmdeielcoomeeaaDoor
