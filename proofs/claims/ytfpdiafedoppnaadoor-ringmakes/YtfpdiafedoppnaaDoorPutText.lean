/-
  The contract of PutText: the number of the text's bytes and they, behind a copy of the bytes that were handed in; nothing that was there turns.
-/
import Derived.Test.YtfpdiafedoppnaaDoorPut
import Derived.Lib.AppendStr
namespace Go.Proofs.YtfpdiafedoppnaaDoor
open Go.RowKit Go.Lib

theorem strCells_cs (s : List UInt8) : strCells ⟨s.toArray⟩ = cs s := by
  simp [strCells, cs]

/-- append(row, text...) within the row's own room -/
theorem run_append_spare_string (w : World) (base g n cap : Nat) (xs s : List UInt8) (ty : TypeId) (hown : Own w base g n cap xs) (hroom : n + s.length ≤ cap) :
    ∃ w', (Builtin.append_ #[38, 9] ty #[.slice (some ⟨g, 0, none⟩) n cap, str s]).run Tryd.prog w = .ok (.slice (some ⟨g, 0, none⟩) (n + s.length) cap) w' ∧
      Own w' base g (n + s.length) cap (xs ++ s) ∧ w.grownBy w' (some g) := by
  obtain ⟨i0, hi, hz0, hz1, hz2⟩ := info_parts Tryd.infoU8
  have hlen : (cs (xs ++ s)).length = (n + s.length) * 1 := by rw [cs_length, List.length_append, hown.len]; omega
  rcases hown.2 with ⟨h0, _⟩ | ⟨g', cap', cur, hv, hbg, hg, hnc, hcm, hcs, htake⟩
  · cases h0
  · cases hv
    have hcs' : cur.size = cap := by simpa using hcs
    have hs : (⟨s.toArray⟩ : ByteArray).size = s.length := by simp [ByteArray.size]
    have hr := run_append_room_string (P := Tryd.prog) w 38 9 ty 5 i0 Tryd.underlying38 Tryd.underlying9 hi hz1 g n cap cur hg ⟨s.toArray⟩ (by rw [hs]; exact hroom) (by rw [hs]; omega)
    rw [hs] at hr
    refine ⟨_, hr, ⟨hlen, .inr ⟨g, cap, _, rfl, hbg, setRow_heap w g cur _ 5 _ hg, hroom, hcm, ?_, ?_⟩⟩, ⟨rfl, rfl, rfl, by simp, fun k _ hk => setRow_other w g k _ (fun e => hk (by simp [e]))⟩⟩
    · simp only [List.size_toArray, List.length_append, List.length_take, List.length_drop, Array.length_toList, strCells_length, hs]
      omega
    · have ht' : cur.toList.take n = cs xs := by simpa using htake
      rw [ht', strCells_cs, ← cs_append, ← hlen]
      exact List.take_left

theorem wpList_append_spare_string (w : World) {ops : Array Oper} {rest : List Oper} {o : Oper} {a : Act} {Q : Exit → Act → World → Prop} (hgd : o.guard = none) (sl x : Operand)
    (ho : o.op = .call { callee := .builtin .append, args := #[sl, x], argTypes := #[38, 9] })
    (base g n cap m : Nat) (xs s : List UInt8) (hs : a.eval sl = .slice (some ⟨g, 0, none⟩) n cap) (hown : Own w base g n cap xs) (hx : a.eval x = str s) (hm : s.length = m) (hroom : n + m ≤ cap)
    (h : ∀ w', Own w' base g (n + m) cap (xs ++ s) → w.grownBy w' (some g) → wpList Tryd.prog ops Q rest (a.put o.dst (.slice (some ⟨g, 0, none⟩) (n + m) cap)) w') : wpList Tryd.prog ops Q (o :: rest) a w := by
  subst hm
  refine wpList_plain hgd fun K hK => ?_
  obtain ⟨w', hr, h2, h3⟩ := run_append_spare_string w base g n cap xs s o.type hown hroom
  unfold Oper.wp execOp
  simp only [ho, resolve, invoke, builtin, Sem.run_bind, Sem.run_pure, Result.andThen_ok, List.map_toArray, List.map_cons, List.map_nil, hs, hx, hr]
  exact hK _ _ (h w' h2 h3)

set_option maxRecDepth 100000 in
set_option maxHeartbeats 800000 in
theorem putText_any (a : Option Addr) (c : Nat) (l s : List UInt8) (w : World) (ha : Holds w a c l) (hr : l.length + (10 + s.length) ≤ 281474976710656) :
    Calls Tryd.prog 34 #[.slice a l.length c, str s] w fun e w' =>
      ∃ g cap, e = .returned (.slice (some ⟨g, 0, none⟩) (l ++ Pm.vb (Pm.tb s.length) ++ s).length cap) ∧ cap = l.length + (10 + s.length) ∧ Own w' w.heap.size g (l ++ Pm.vb (Pm.tb s.length) ++ s).length cap (l ++ Pm.vb (Pm.tb s.length) ++ s) ∧ Below w.heap.size w w' := by
  have b0 : (0 : Int) ≤ (s.length : Int) := by omega
  have b1 : (s.length : Int) ≤ 281474976710656 := by omega
  have hsz : (⟨s.toArray⟩ : ByteArray).size = s.length := by simp [ByteArray.size]
  have hv := Pm.vb_len10 _ (Pm.tb_lt (s.length : Int) (by omega) (by omega))
  generalize hV : Pm.vb (Pm.tb (s.length : Int)) = V at *
  have HV : Hid (Pm.vb (Pm.tb (s.length : Int)) = V) := hV
  clear hV
  go_enter Tryd.func34, Tryd.ntmps34
  go_wp2_with fail
  rw [show (10 + (s.length : Int)) = ((10 + s.length : Nat) : Int) by omega]
  refine (copyWithRoom_any a c l (10 + s.length) w ha hr).mono ?_
  rintro e w1 ⟨rfl, ho1, hb1⟩
  go_wp2_with fail
  have hap := appendInt_any w.heap.size w.heap.size l.length (l.length + (10 + s.length)) l (s.length : Int) w1 (by omega) (by omega) ho1 (by omega)
  rw [HV.out] at hap
  refine hap.mono ?_
  clear hap
  rintro e w2 ⟨rfl, ho2, hb2⟩
  go_wp2_with (at_builtin; refine wpList_append_spare_string _ rfl _ _ rfl w.heap.size w.heap.size (l.length + V.length) (l.length + (10 + s.length)) s.length (l ++ V) s rfl ho2 rfl rfl ?b ?ap)
  case b => omega
  case ap =>
    intro w3 ho3 hg3
    go_wp2
    go_ret
    have e : (l ++ V ++ s).length = l.length + V.length + s.length := by simp only [List.length_append]
    refine ⟨w.heap.size, _, ?_, rfl, ?_, (hb1.trans hb2).grown hg3 (hb1.trans hb2).size (fun k h => by cases h; exact Nat.le_refl _)⟩
    · rw [e]; rfl
    · rw [e, List.append_assoc]; exact ho3
end Go.Proofs.YtfpdiafedoppnaaDoor
