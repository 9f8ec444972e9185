/-
  The contracts of the reference's PutInt and PutText: they lay the bytes that Pm.vb gives, in memory of their own; nothing that was there turns.
-/
import Derived.Test.YtfpdiafedoppnaaDoorPutText
namespace Go.Proofs.YtfpdiafedoppnaaDoor
open Go.RowKit Go.Lib

theorem hideP {p : Prop} (h : p) : Hid p := h

/-- the loop and what follows it, whatever the bits' own way there -/
theorem u64_two {x : Int} {U : Nat} (h : x % 18446744073709551616 = (U : Int)) : IntKind.u64.wrap x = (U : Int) := by rw [IntKind.wrap_u64]; exact h

set_option maxRecDepth 100000 in
set_option maxHeartbeats 1600000 in
theorem rputInt_any (a : Option Addr) (c : Nat) (l : List UInt8) (x : Int) (w : World) (ha : Holds w a c l) (hr : l.length + 10 ≤ 140737488355328) (h0 : -9223372036854775808 ≤ x) (h1 : x ≤ 9223372036854775807) :
    Calls Tryd.prog 41 #[.slice a l.length c, .int .i64 x] w fun e w' =>
      ∃ g cap, e = .returned (.slice (some ⟨g, 0, none⟩) (l ++ Pm.vb (Pm.tb x)).length cap) ∧ Own w' w.heap.size g (l ++ Pm.vb (Pm.tb x)).length cap (l ++ Pm.vb (Pm.tb x)) ∧ Below w.heap.size w w' := by
  have hU := Pm.tb_lt x h0 h1
  have hL := Pm.vb_len10 _ hU
  have hT : (Pm.tb x : Int) = if x < 0 then -2 * x - 1 else 2 * x := by unfold Pm.tb; split <;> omega
  generalize Pm.tb x = U at *
  have HT : Hid ((U : Int) = if x < 0 then -2 * x - 1 else 2 * x) := hT
  clear hT
  have ho0 : Own (w.alloc (.cells #[] 5)) w.heap.size w.heap.size 0 0 [] := own_new w [] #[] rfl (by unfold maxLen; simp)
  have hb0 := below_alloc w (.cells #[] 5)
  by_cases hx : x < 0
  · go_enter Tryd.func41, Tryd.ntmps41
    go_wp2_with (at_builtin; refine wpList_append_bytes _ rfl _ _ rfl w.heap.size w.heap.size 0 0 [] l a l.length c rfl ho0 rfl rfl (ha.below hb0) ?b1 ?ap)
    case b1 => omega
    case ap =>
      intro g1 c1 w1 ho1 hb1
      have B1 := hb0.trans hb1
      go_wp2
      go_loopw [5, 6] (fun u b wr => ∃ (v : Nat) (p : List UInt8) (g cap : Nat), u = .int .u64 (v : Int) ∧ b = .slice (some ⟨g, 0, none⟩) (l.length + p.length) cap ∧ v ≤ U ∧ Pm.vb U = p ++ Pm.vb v ∧ Own wr w.heap.size g (l.length + p.length) cap (l ++ p) ∧ Below w.heap.size w wr) (fun u _ _ => (intOf u).toNat)
      case atStart =>
        refine ⟨U, [], g1, c1, congrArg (Value.int .u64) ?_, rfl, Nat.le_refl _, rfl, by simpa using ho1, B1⟩
        have e := HT.out
        rw [if_pos hx] at e
        first | omega | (simp only [IntKind.wrap_u64]; omega)
      case round =>
        obtain ⟨v, p, g, cap, rfl, rfl, hv, hp, hown, hbel⟩ := hrel
        have hp2 : (Pm.vb U).length = p.length + (Pm.vb v).length := by rw [hp, List.length_append]
        have hpos := Pm.vb_pos v
        have HP : Hid (Pm.vb U = p ++ Pm.vb v) := hp
        clear hp ho0 hb0 hb1 ho1 B1
        by_cases hlt : v < 128
        · have hvb := Pm.vb_lt hlt
          have HV : Hid (Pm.vb v = [UInt8.ofNat v]) := hvb
          have hl1 : (Pm.vb v).length = 1 := by rw [hvb]; rfl
          clear hvb
          have hn := holds_new wr [UInt8.ofNat v] #[.int .u8 (v : Int)] 5 (by simp [cs]; omega)
          have hb2 := below_alloc wr (.cells #[.int .u8 (v : Int)] 5)
          go_wp2_with (at_builtin; refine wpList_append_bytes _ rfl _ _ rfl w.heap.size g (l.length + p.length) cap (l ++ p) [UInt8.ofNat v] (some ⟨wr.heap.size, 0, none⟩) 1 1 rfl (hown.alloc _) rfl rfl hn ?b2 ?ap2)
          case b2 => omega
          case ap2 =>
            intro g2 c2 w2 ho2 hb3
            go_wp2
            go_ret
            have e : l ++ Pm.vb U = l ++ p ++ [UInt8.ofNat v] := by rw [HP.out, HV.out, List.append_assoc]
            have e2 : (l ++ Pm.vb U).length = l.length + p.length + 1 := by rw [List.length_append, hp2, hl1]; omega
            refine ⟨g2, c2, ?_, ?_, hbel.trans ((hb2.mono hbel.size).trans hb3)⟩
            · rw [e2]; rfl
            · rw [e2, e]; simpa using ho2
        · have hvb := Pm.vb_ge hlt
          have HV : Hid (Pm.vb v = UInt8.ofNat (v % 128 + 128) :: Pm.vb (v / 128)) := hvb
          have hl1 : (Pm.vb v).length = 1 + (Pm.vb (v / 128)).length := by rw [hvb, List.length_cons]; omega
          clear hvb
          have hpos' := Pm.vb_pos (v / 128)
          have hn := holds_new wr [UInt8.ofNat (v % 128 + 128)] #[.int .u8 ((v : Int) % 128 + 128)] 5 (by simp [cs]; omega)
          have hb2 := below_alloc wr (.cells #[.int .u8 ((v : Int) % 128 + 128)] 5)
          have hlt' : ¬ (v : Int) < 128 := by omega
          go_wp2_with (at_builtin; refine wpList_append_bytes _ rfl _ _ rfl w.heap.size g (l.length + p.length) cap (l ++ p) [UInt8.ofNat (v % 128 + 128)] (some ⟨wr.heap.size, 0, none⟩) 1 1 rfl (hown.alloc _) rfl rfl hn ?b2 ?ap2)
          case b2 => omega
          case ap2 =>
            intro g2 c2 w2 ho2 hb3
            go_wp2
            refine ⟨⟨v / 128, p ++ [UInt8.ofNat (v % 128 + 128)], g2, c2, by simp, by simp [Nat.add_assoc], by omega, by rw [HP.out, HV.out]; simp, ?_, hbel.trans ((hb2.mono hbel.size).trans hb3)⟩, by simp [intOf]; omega⟩
            rw [List.length_append]
            simpa [Nat.add_assoc] using ho2
  · go_enter Tryd.func41, Tryd.ntmps41
    go_wp2_with (at_builtin; refine wpList_append_bytes _ rfl _ _ rfl w.heap.size w.heap.size 0 0 [] l a l.length c rfl ho0 rfl rfl (ha.below hb0) ?b1 ?ap)
    case b1 => omega
    case ap =>
      intro g1 c1 w1 ho1 hb1
      have B1 := hb0.trans hb1
      go_wp2
      go_loopw [5, 6] (fun u b wr => ∃ (v : Nat) (p : List UInt8) (g cap : Nat), u = .int .u64 (v : Int) ∧ b = .slice (some ⟨g, 0, none⟩) (l.length + p.length) cap ∧ v ≤ U ∧ Pm.vb U = p ++ Pm.vb v ∧ Own wr w.heap.size g (l.length + p.length) cap (l ++ p) ∧ Below w.heap.size w wr) (fun u _ _ => (intOf u).toNat)
      case atStart =>
        refine ⟨U, [], g1, c1, congrArg (Value.int .u64) ?_, rfl, Nat.le_refl _, rfl, by simpa using ho1, B1⟩
        have e := HT.out
        rw [if_neg (by omega)] at e
        first | omega | (simp only [IntKind.wrap_u64]; omega)
      case round =>
        obtain ⟨v, p, g, cap, rfl, rfl, hv, hp, hown, hbel⟩ := hrel
        have hp2 : (Pm.vb U).length = p.length + (Pm.vb v).length := by rw [hp, List.length_append]
        have hpos := Pm.vb_pos v
        have HP : Hid (Pm.vb U = p ++ Pm.vb v) := hp
        clear hp ho0 hb0 hb1 ho1 B1
        by_cases hlt : v < 128
        · have hvb := Pm.vb_lt hlt
          have HV : Hid (Pm.vb v = [UInt8.ofNat v]) := hvb
          have hl1 : (Pm.vb v).length = 1 := by rw [hvb]; rfl
          clear hvb
          have hn := holds_new wr [UInt8.ofNat v] #[.int .u8 (v : Int)] 5 (by simp [cs]; omega)
          have hb2 := below_alloc wr (.cells #[.int .u8 (v : Int)] 5)
          go_wp2_with (at_builtin; refine wpList_append_bytes _ rfl _ _ rfl w.heap.size g (l.length + p.length) cap (l ++ p) [UInt8.ofNat v] (some ⟨wr.heap.size, 0, none⟩) 1 1 rfl (hown.alloc _) rfl rfl hn ?b2 ?ap2)
          case b2 => omega
          case ap2 =>
            intro g2 c2 w2 ho2 hb3
            go_wp2
            go_ret
            have e : l ++ Pm.vb U = l ++ p ++ [UInt8.ofNat v] := by rw [HP.out, HV.out, List.append_assoc]
            have e2 : (l ++ Pm.vb U).length = l.length + p.length + 1 := by rw [List.length_append, hp2, hl1]; omega
            refine ⟨g2, c2, ?_, ?_, hbel.trans ((hb2.mono hbel.size).trans hb3)⟩
            · rw [e2]; rfl
            · rw [e2, e]; simpa using ho2
        · have hvb := Pm.vb_ge hlt
          have HV : Hid (Pm.vb v = UInt8.ofNat (v % 128 + 128) :: Pm.vb (v / 128)) := hvb
          have hl1 : (Pm.vb v).length = 1 + (Pm.vb (v / 128)).length := by rw [hvb, List.length_cons]; omega
          clear hvb
          have hpos' := Pm.vb_pos (v / 128)
          have hn := holds_new wr [UInt8.ofNat (v % 128 + 128)] #[.int .u8 ((v : Int) % 128 + 128)] 5 (by simp [cs]; omega)
          have hb2 := below_alloc wr (.cells #[.int .u8 ((v : Int) % 128 + 128)] 5)
          have hlt' : ¬ (v : Int) < 128 := by omega
          go_wp2_with (at_builtin; refine wpList_append_bytes _ rfl _ _ rfl w.heap.size g (l.length + p.length) cap (l ++ p) [UInt8.ofNat (v % 128 + 128)] (some ⟨wr.heap.size, 0, none⟩) 1 1 rfl (hown.alloc _) rfl rfl hn ?b2 ?ap2)
          case b2 => omega
          case ap2 =>
            intro g2 c2 w2 ho2 hb3
            go_wp2
            refine ⟨⟨v / 128, p ++ [UInt8.ofNat (v % 128 + 128)], g2, c2, by simp, by simp [Nat.add_assoc], by omega, by rw [HP.out, HV.out]; simp, ?_, hbel.trans ((hb2.mono hbel.size).trans hb3)⟩, by simp [intOf]; omega⟩
            rw [List.length_append]
            simpa [Nat.add_assoc] using ho2

theorem rputInt_ex (a : Option Addr) (n c m : Nat) (l k : List UInt8) (x : Int) (w : World) (hn : l.length = n) (ha : Holds w a c l) (hr : n + 10 ≤ 140737488355328) (h0 : -9223372036854775808 ≤ x) (h1 : x ≤ 9223372036854775807)
    (hk : l ++ Pm.vb (Pm.tb x) = k) (hm : k.length = m) :
    Calls Tryd.prog 41 #[.slice a n c, .int .i64 x] w fun e w' => ∃ g cap, e = .returned (.slice (some ⟨g, 0, none⟩) m cap) ∧ Own w' w.heap.size g m cap k ∧ Below w.heap.size w w' := by
  subst hn hk hm
  exact rputInt_any a c l x w ha hr h0 h1

set_option maxRecDepth 100000 in
set_option maxHeartbeats 800000 in
theorem rputText_any (a : Option Addr) (c : Nat) (l s : List UInt8) (w : World) (ha : Holds w a c l) (hr : l.length + (10 + s.length) ≤ 140737488355328) :
    Calls Tryd.prog 40 #[.slice a l.length c, str s] w fun e w' =>
      ∃ g cap, e = .returned (.slice (some ⟨g, 0, none⟩) (l ++ Pm.vb (Pm.tb s.length) ++ s).length cap) ∧ Own w' w.heap.size g (l ++ Pm.vb (Pm.tb s.length) ++ s).length cap (l ++ Pm.vb (Pm.tb s.length) ++ s) ∧ Below w.heap.size w w' := by
  obtain ⟨i0, hi, hz0, hz1, hz2⟩ := info_parts Tryd.infoU8
  have b1 : (s.length : Int) ≤ 281474976710656 := by omega
  have hsz : (⟨s.toArray⟩ : ByteArray).size = s.length := by simp [ByteArray.size]
  have hv := Pm.vb_len10 _ (Pm.tb_lt (s.length : Int) (by omega) (by omega))
  have hlen : (l ++ Pm.vb (Pm.tb s.length)).length ≤ l.length + 10 := by rw [List.length_append]; omega
  have P := rputInt_ex a l.length c _ l _ (s.length : Int) w rfl ha (by omega) (by omega) (by omega) rfl rfl
  generalize l ++ Pm.vb (Pm.tb (s.length : Int)) = L at *
  have HP := hideP P
  clear P
  go_enter Tryd.func40, Tryd.ntmps40
  go_wp2_with fail
  refine HP.out.mono ?_
  rintro e w1 ⟨g1, c1, rfl, ho1, B1⟩
  go_wp2_with (at_builtin; refine wpList_append_own_string _ rfl _ _ 38 9 rfl w.heap.size 5 i0 Tryd.underlying38 Tryd.underlying9 hi hz0 hz1 hz2 _ L.length (cs L) rfl ho1 ⟨s.toArray⟩ rfl ?h63 ?hby ?hba ?ap)
  case h63 => rw [hsz]; unfold maxLen; omega
  case hby => rw [hsz]; omega
  case hba => exact ho1.base_le
  case ap =>
    intro v2 w2 ho2 hg2 hn2
    rw [strCells_cs] at ho2
    rcases ho2.2 with ⟨hv0, _⟩ | ⟨g2, c2, cur, hv2, hrest⟩
    · exact absurd hv0 hn2
    · subst hv2
      go_wp2
      go_ret
      have e : (L ++ s).length = L.length + s.length := List.length_append
      refine ⟨g2, c2, ?_, ?_, B1.grown hg2 B1.size (fun k h => by cases h; exact ho1.parts.1)⟩
      · rw [e]; rfl
      · rw [e]; unfold Own; rw [cs_append]; exact ho2
end Go.Proofs.YtfpdiafedoppnaaDoor

/-
  The contracts of the program's and the reference's PutText, told by the bytes that come out.
-/
namespace Go.Proofs.YtfpdiafedoppnaaDoor
open Go.RowKit

theorem putText_ex (a : Option Addr) (n c m : Nat) (l s T : List UInt8) (w : World) (hn : l.length = n) (ha : Holds w a c l) (hr : n + (10 + s.length) ≤ 281474976710656)
    (hT : l ++ Pm.vb (Pm.tb s.length) ++ s = T) (hm : T.length = m) :
    Calls Tryd.prog 34 #[.slice a n c, str s] w fun e w' => ∃ g cap, e = .returned (.slice (some ⟨g, 0, none⟩) m cap) ∧ Own w' w.heap.size g m cap T ∧ Below w.heap.size w w' := by
  subst hn hT hm
  exact (putText_any a c l s w ha hr).mono fun e w' ⟨g, cap, he, _, ho, hb⟩ => ⟨g, cap, he, ho, hb⟩
theorem rputText_ex (a : Option Addr) (n c m : Nat) (l s T : List UInt8) (w : World) (hn : l.length = n) (ha : Holds w a c l) (hr : n + (10 + s.length) ≤ 140737488355328)
    (hT : l ++ Pm.vb (Pm.tb s.length) ++ s = T) (hm : T.length = m) :
    Calls Tryd.prog 40 #[.slice a n c, str s] w fun e w' => ∃ g cap, e = .returned (.slice (some ⟨g, 0, none⟩) m cap) ∧ Own w' w.heap.size g m cap T ∧ Below w.heap.size w w' := by
  subst hn hT hm
  exact rputText_any a c l s w ha hr
end Go.Proofs.YtfpdiafedoppnaaDoor
