/-
  The contracts of PutInt and what it calls: a number's bytes are laid behind a copy of the bytes that were handed in; nothing that was there turns.
-/
import Derived.Lib.AppendStr
import Derived.Test.YtfpdiafedoppnaaDoorBits
namespace Go.Proofs.YtfpdiafedoppnaaDoor
open Go.RowKit

set_option maxHeartbeats 400000 in
theorem copyWithRoom_any (a : Option Addr) (c : Nat) (l : List UInt8) (room : Nat) (w : World) (ha : Holds w a c l) (hr : l.length + room ≤ 281474976710656) :
    Calls Tryd.prog 46 #[.slice a l.length c, .int .i64 (room : Int)] w fun e w' =>
      e = .returned (.slice (some ⟨w.heap.size, 0, none⟩) l.length (l.length + room)) ∧ Own w' w.heap.size w.heap.size l.length (l.length + room) l ∧ Below w.heap.size w w' := by
  obtain ⟨i0, hi, hz0, hz1, hz2⟩ := info_parts Tryd.infoU8
  have b0 : (0 : Int) ≤ (l.length : Int) + (room : Int) := by omega
  have b1 : (l.length : Int) + (room : Int) ≤ 281474976710656 := by omega
  go_enter Tryd.func46, Tryd.ntmps46
  go_wp2_with (first | (at_make; refine wpList_make_own _ rfl _ _ 38 rfl w.heap.size 5 i0 (.int .u8 0) 1 Tryd.underlying38 hi hz0 hz1 _ _ _ (l.length + room) rfl rfl ?mk1 ?mk2 ?mk3 (Nat.le_refl _) ?mk))
  case mk1 => simp
  case mk2 => rw [hz2]; omega
  case mk3 => unfold maxLen; omega
  case mk =>
    intro w1 ho1 hg1
    have hb1 : Below w.heap.size w w1 := (Below.refl _ _).grown hg1 (Nat.le_refl _) (fun k h => by cases h)
    have ha1 := ha.below hb1
    go_wp2_with (first | (at_builtin; refine wpList_append_fits_any _ rfl _ _ 38 rfl w.heap.size 5 i0 1 Tryd.underlying38 hi hz1 w.heap.size 0 (l.length + room) [] rfl ho1 a l.length c (cs l) rfl ?ap1 ?ap2 ?ap3 (cs_one l) ?ap4 ?ap))
    case ap1 => rw [cs_length]; omega
    case ap2 => intro h; obtain ⟨rfl, rfl⟩ := ha.2.1 h; exact ⟨rfl, rfl⟩
    case ap3 => exact ha1.2.2
    case ap4 => omega
    case ap =>
      intro w2 ho2 hg2
      go_wp2
      go_ret
      exact ⟨by simp, by simpa using ho2, hb1.grown hg2 hb1.size (fun k h => by cases h; exact Nat.le_refl _)⟩

set_option maxRecDepth 100000 in
set_option maxHeartbeats 400000 in
theorem appendInt_any (base g n cap : Nat) (l : List UInt8) (x : Int) (w : World) (h0 : -9223372036854775808 ≤ x) (h1 : x ≤ 9223372036854775807) (ho : Own w base g n cap l) (hroom : n + 10 ≤ cap) :
    Calls Tryd.prog 45 #[.slice (some ⟨g, 0, none⟩) n cap, .int .i64 x] w fun e w' =>
      e = .returned (.slice (some ⟨g, 0, none⟩) (n + (Pm.vb (Pm.tb x)).length) cap) ∧ Own w' base g (n + (Pm.vb (Pm.tb x)).length) cap (l ++ Pm.vb (Pm.tb x)) ∧ Below base w w' := by
  obtain ⟨i0, hi, hz0, hz1, hz2⟩ := info_parts Tryd.infoU8
  have one : ∀ (x : Int), ∀ u ∈ [Value.int .u8 x], u.oneCell' = true := fun x u hu => by simp at hu; subst hu; rfl
  have hU := Pm.tb_lt x h0 h1
  have hL := Pm.vb_len10 _ hU
  generalize hu : Pm.tb x = U at *
  have HU : Hid (Pm.tb x = U) := hu
  clear hu
  go_enter Tryd.func45, Tryd.ntmps45
  go_wp2_with (first | (go_at_call 53; refine (toBits_any _ _ h0 h1).mono ?_; rintro e w' ⟨rfl, rfl⟩; rw [HU.out]))
  go_loopw [0, 5] (fun b u wr => ∃ (v : Nat) (p : List UInt8), u = .int .u64 (v : Int) ∧ b = .slice (some ⟨g, 0, none⟩) (n + p.length) cap ∧ v ≤ U ∧ Pm.vb U = p ++ Pm.vb v ∧ Own wr base g (n + p.length) cap (l ++ p) ∧ Below base w wr) (fun _ u _ => (intOf u).toNat)
  case atStart => exact ⟨U, [], rfl, rfl, Nat.le_refl _, rfl, by simpa using ho, Below.refl _ _⟩
  case round =>
    obtain ⟨v, p, rfl, rfl, hv, hp, hown, hbel⟩ := hrel
    have hp2 : (Pm.vb U).length = p.length + (Pm.vb v).length := by rw [hp, List.length_append]
    have hpos := Pm.vb_pos v
    have HP : Hid (Pm.vb U = p ++ Pm.vb v) := hp
    clear hp
    by_cases hlt : v < 128
    · have hvb := Pm.vb_lt hlt
      have HV : Hid (Pm.vb v = [UInt8.ofNat v]) := hvb
      have hl1 : (Pm.vb v).length = 1 := by rw [hvb]; rfl
      clear hvb
      have hb1 : ∀ o, Below base w (wr.alloc o) := fun o => hbel.alloc (Nat.le_trans hown.parts.1 (Nat.le_of_lt hown.parts.2.1)) o
      go_wp2_with (at_builtin; refine wpList_append_fits _ rfl _ _ 38 rfl base 5 i0 1 Tryd.underlying38 hi hz1 g (n + p.length) cap (cs (l ++ p)) rfl (hown.alloc _) ⟨wr.heap.size, 0, none⟩ 1 1 [.int .u8 (v : Int)] rfl rfl (cell_one_new _ _ _) (one _) ?a3 ?ap)
      case a3 => omega
      case ap =>
        intro w2 ho2 hg2
        go_wp2
        go_ret
        refine ⟨by rw [hp2, hl1, Nat.add_assoc]; rfl, ?_, (hb1 _).grown hg2 (by simp; exact Nat.le_succ_of_le (Nat.le_trans hown.parts.1 (Nat.le_of_lt hown.parts.2.1))) (fun k h => by cases h; exact hown.parts.1)⟩
        rw [hp2, hl1, HP.out, HV.out, ← List.append_assoc, ← Nat.add_assoc]
        have e : cs (l ++ p ++ [UInt8.ofNat v]) = cs (l ++ p) ++ [.int .u8 (v : Int)] := by
          rw [cs_append]
          simp [cs]
          omega
        unfold Own
        rw [e]
        exact ho2
    · have hm := Pm.u64_and127 v (by omega)
      have hvb := Pm.vb_ge hlt
      have HV : Hid (Pm.vb v = UInt8.ofNat (v % 128 + 128) :: Pm.vb (v / 128)) := hvb
      have hl1 : (Pm.vb v).length = 1 + (Pm.vb (v / 128)).length := by rw [hvb, List.length_cons]; omega
      clear hvb
      have hpos' := Pm.vb_pos (v / 128)
      have hb1 : ∀ o, Below base w (wr.alloc o) := fun o => hbel.alloc (Nat.le_trans hown.parts.1 (Nat.le_of_lt hown.parts.2.1)) o
      have hlt' : ¬ (v : Int) < 128 := by omega
      go_wp2_with (at_builtin; refine wpList_append_fits _ rfl _ _ 38 rfl base 5 i0 1 Tryd.underlying38 hi hz1 g (n + p.length) cap (cs (l ++ p)) rfl (hown.alloc _) ⟨wr.heap.size, 0, none⟩ 1 1 [.int .u8 ((v : Int) % 128 + 128)] rfl rfl (cell_one_new _ _ _) (one _) ?a3 ?ap)
      case a3 => omega
      case ap =>
        intro w2 ho2 hg2
        go_wp2
        have e : cs (l ++ (p ++ [UInt8.ofNat (v % 128 + 128)])) = cs (l ++ p) ++ [.int .u8 ((v : Int) % 128 + 128)] := by
          rw [← List.append_assoc, cs_append]
          simp [cs]
          omega
        refine ⟨⟨v / 128, p ++ [UInt8.ofNat (v % 128 + 128)], by simp, by simp [Nat.add_assoc], by omega, by rw [HP.out, HV.out]; simp, ?_, (hb1 _).grown hg2 (by simp; exact Nat.le_succ_of_le (Nat.le_trans hown.parts.1 (Nat.le_of_lt hown.parts.2.1))) (fun k h => by cases h; exact hown.parts.1)⟩, by simp [intOf]; omega⟩
        unfold Own
        rw [e, List.length_append]
        exact ho2

set_option maxRecDepth 100000 in
set_option maxHeartbeats 400000 in
theorem putInt_any (a : Option Addr) (c : Nat) (l : List UInt8) (x : Int) (w : World) (ha : Holds w a c l) (hr : l.length + 10 ≤ 281474976710656) (h0 : -9223372036854775808 ≤ x) (h1 : x ≤ 9223372036854775807) :
    Calls Tryd.prog 35 #[.slice a l.length c, .int .i64 x] w fun e w' =>
      e = .returned (.slice (some ⟨w.heap.size, 0, none⟩) (l ++ Pm.vb (Pm.tb x)).length (l.length + 10)) ∧ Own w' w.heap.size w.heap.size (l ++ Pm.vb (Pm.tb x)).length (l.length + 10) (l ++ Pm.vb (Pm.tb x)) ∧ Below w.heap.size w w' := by
  go_enter Tryd.func35, Tryd.ntmps35
  go_wp2_with fail
  refine (copyWithRoom_any a c l 10 w ha hr).mono ?_
  rintro e w1 ⟨rfl, ho1, hb1⟩
  go_wp2_with fail
  refine (appendInt_any w.heap.size w.heap.size l.length (l.length + 10) l x w1 h0 h1 ho1 (Nat.le_refl _)).mono ?_
  rintro e w2 ⟨rfl, ho2, hb2⟩
  go_wp2
  go_ret
  rw [List.length_append]
  exact ⟨rfl, ho2, hb1.trans hb2⟩

theorem putInt_at (a : Option Addr) (n c : Nat) (l : List UInt8) (x : Int) (w : World) (hn : l.length = n) (ha : Holds w a c l) (hr : n + 10 ≤ 281474976710656) (h0 : -9223372036854775808 ≤ x) (h1 : x ≤ 9223372036854775807) :
    Calls Tryd.prog 35 #[.slice a n c, .int .i64 x] w fun e w' =>
      e = .returned (.slice (some ⟨w.heap.size, 0, none⟩) (l ++ Pm.vb (Pm.tb x)).length (n + 10)) ∧ Own w' w.heap.size w.heap.size (l ++ Pm.vb (Pm.tb x)).length (n + 10) (l ++ Pm.vb (Pm.tb x)) ∧ Below w.heap.size w w' := by
  subst hn
  exact putInt_any a c l x w ha hr h0 h1
theorem putInt_ex (a : Option Addr) (n c m : Nat) (l k : List UInt8) (x : Int) (w : World) (hn : l.length = n) (ha : Holds w a c l) (hr : n + 10 ≤ 281474976710656) (h0 : -9223372036854775808 ≤ x) (h1 : x ≤ 9223372036854775807)
    (hk : l ++ Pm.vb (Pm.tb x) = k) (hm : k.length = m) :
    Calls Tryd.prog 35 #[.slice a n c, .int .i64 x] w fun e w' => ∃ g cap, e = .returned (.slice (some ⟨g, 0, none⟩) m cap) ∧ Own w' w.heap.size g m cap k ∧ Below w.heap.size w w' := by
  subst hk hm
  exact (putInt_at a n c l x w hn ha hr h0 h1).mono fun e w' ⟨he, ho, hb⟩ => ⟨_, _, he, ho, hb⟩

end Go.Proofs.YtfpdiafedoppnaaDoor

/-
  The contract of PutText: the number of the text's bytes and they, behind a copy of the bytes that were handed in; nothing that was there turns.
-/
namespace Go.Proofs.YtfpdiafedoppnaaDoor
open Go.RowKit Go.Lib

theorem strCells_cs (s : List UInt8) : strCells ⟨s.toArray⟩ = cs s := by
  simp [strCells, cs]

/-- append(row, text...) within the row's own room -/
theorem run_append_spare_string (w : World) (base g n cap : Nat) (xs s : List UInt8) (ty : TypeId) (hown : Own w base g n cap xs) (hroom : n + s.length ≤ cap) :
    ∃ w', (Builtin.append_ #[38, 9] ty #[.slice (some ⟨g, 0, none⟩) n cap, str s]).run Tryd.prog w = .ok (.slice (some ⟨g, 0, none⟩) (n + s.length) cap) w' ∧
      Own w' base g (n + s.length) cap (xs ++ s) ∧ w.grownBy w' (some g) := by
  obtain ⟨i0, hi, hz0, hz1, hz2⟩ := info_parts Tryd.infoU8
  have hlen : (cs (xs ++ s)).length = (n + s.length) * 1 := by rw [cs_length, List.length_append, hown.len]; omega
  rcases hown.2 with ⟨h0, _⟩ | ⟨g', cap', cur, hv, hbg, hg, hnc, hcm, hcs, htake⟩
  · cases h0
  · cases hv
    have hcs' : cur.size = cap := by simpa using hcs
    have hs : (⟨s.toArray⟩ : ByteArray).size = s.length := by simp [ByteArray.size]
    have hr := run_append_room_string (P := Tryd.prog) w 38 9 ty 5 i0 Tryd.underlying38 Tryd.underlying9 hi hz1 g n cap cur hg ⟨s.toArray⟩ (by rw [hs]; exact hroom) (by rw [hs]; omega)
    rw [hs] at hr
    refine ⟨_, hr, ⟨hlen, .inr ⟨g, cap, _, rfl, hbg, setRow_heap w g cur _ 5 _ hg, hroom, hcm, ?_, ?_⟩⟩, ⟨rfl, rfl, rfl, by simp, fun k _ hk => setRow_other w g k _ (fun e => hk (by simp [e]))⟩⟩
    · simp only [List.size_toArray, List.length_append, List.length_take, List.length_drop, Array.length_toList, strCells_length, hs]
      omega
    · have ht' : cur.toList.take n = cs xs := by simpa using htake
      rw [ht', strCells_cs, ← cs_append, ← hlen]
      exact List.take_left

theorem wpList_append_spare_string (w : World) {ops : Array Oper} {rest : List Oper} {o : Oper} {a : Act} {Q : Exit → Act → World → Prop} (hgd : o.guard = none) (sl x : Operand)
    (ho : o.op = .call { callee := .builtin .append, args := #[sl, x], argTypes := #[38, 9] })
    (base g n cap m : Nat) (xs s : List UInt8) (hs : a.eval sl = .slice (some ⟨g, 0, none⟩) n cap) (hown : Own w base g n cap xs) (hx : a.eval x = str s) (hm : s.length = m) (hroom : n + m ≤ cap)
    (h : ∀ w', Own w' base g (n + m) cap (xs ++ s) → w.grownBy w' (some g) → wpList Tryd.prog ops Q rest (a.put o.dst (.slice (some ⟨g, 0, none⟩) (n + m) cap)) w') : wpList Tryd.prog ops Q (o :: rest) a w := by
  subst hm
  refine wpList_plain hgd fun K hK => ?_
  obtain ⟨w', hr, h2, h3⟩ := run_append_spare_string w base g n cap xs s o.type hown hroom
  unfold Oper.wp execOp
  simp only [ho, resolve, invoke, builtin, Sem.run_bind, Sem.run_pure, Result.andThen_ok, List.map_toArray, List.map_cons, List.map_nil, hs, hx, hr]
  exact hK _ _ (h w' h2 h3)

set_option maxRecDepth 100000 in
set_option maxHeartbeats 800000 in
theorem putText_any (a : Option Addr) (c : Nat) (l s : List UInt8) (w : World) (ha : Holds w a c l) (hr : l.length + (10 + s.length) ≤ 281474976710656) :
    Calls Tryd.prog 34 #[.slice a l.length c, str s] w fun e w' =>
      ∃ g cap, e = .returned (.slice (some ⟨g, 0, none⟩) (l ++ Pm.vb (Pm.tb s.length) ++ s).length cap) ∧ cap = l.length + (10 + s.length) ∧ Own w' w.heap.size g (l ++ Pm.vb (Pm.tb s.length) ++ s).length cap (l ++ Pm.vb (Pm.tb s.length) ++ s) ∧ Below w.heap.size w w' := by
  have b0 : (0 : Int) ≤ (s.length : Int) := by omega
  have b1 : (s.length : Int) ≤ 281474976710656 := by omega
  have hsz : (⟨s.toArray⟩ : ByteArray).size = s.length := by simp [ByteArray.size]
  have hv := Pm.vb_len10 _ (Pm.tb_lt (s.length : Int) (by omega) (by omega))
  generalize hV : Pm.vb (Pm.tb (s.length : Int)) = V at *
  have HV : Hid (Pm.vb (Pm.tb (s.length : Int)) = V) := hV
  clear hV
  go_enter Tryd.func34, Tryd.ntmps34
  go_wp2_with fail
  rw [show (10 + (s.length : Int)) = ((10 + s.length : Nat) : Int) by omega]
  refine (copyWithRoom_any a c l (10 + s.length) w ha hr).mono ?_
  rintro e w1 ⟨rfl, ho1, hb1⟩
  go_wp2_with fail
  have hap := appendInt_any w.heap.size w.heap.size l.length (l.length + (10 + s.length)) l (s.length : Int) w1 (by omega) (by omega) ho1 (by omega)
  rw [HV.out] at hap
  refine hap.mono ?_
  clear hap
  rintro e w2 ⟨rfl, ho2, hb2⟩
  go_wp2_with (at_builtin; refine wpList_append_spare_string _ rfl _ _ rfl w.heap.size w.heap.size (l.length + V.length) (l.length + (10 + s.length)) s.length (l ++ V) s rfl ho2 rfl rfl ?b ?ap)
  case b => omega
  case ap =>
    intro w3 ho3 hg3
    go_wp2
    go_ret
    have e : (l ++ V ++ s).length = l.length + V.length + s.length := by simp only [List.length_append]
    refine ⟨w.heap.size, _, ?_, rfl, ?_, (hb1.trans hb2).grown hg3 (hb1.trans hb2).size (fun k h => by cases h; exact Nat.le_refl _)⟩
    · rw [e]; rfl
    · rw [e, List.append_assoc]; exact ho3
end Go.Proofs.YtfpdiafedoppnaaDoor
