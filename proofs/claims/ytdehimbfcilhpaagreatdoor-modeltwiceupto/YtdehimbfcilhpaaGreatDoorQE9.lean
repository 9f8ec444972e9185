/-
  The program's said: the fact of terms that all have a value.
-/
import Derived.Test.YtdehimbfcilhpaaGreatDoorQBs
import Derived.Test.YtdehimbfcilhpaaGreatDoorQE2
namespace Go.Proofs.YtdehimbfcilhpaaGreatDoor
open Go.RowKit Go.Lib Go.Shelf

def f0 : F := ⟨[], [], [], []⟩
theorem Tryz.iKk : (Tryz.prog.info? 56).map (fun i => (i.zero, i.size, i.bytes)) = some (some (.agg #[.bool false, .int .i64 0, .string .empty]), kK.k, 32) := by kernel_rfl
theorem Tryz.iK3 : (Tryz.prog.info? 56).map (fun i => (i.zero, i.size, i.bytes)) = some (some (.agg #[.bool false, .int .i64 0, .string .empty]), 3, 32) := by kernel_rfl
/-- constants in a row of the call's own -/
def OwnK (base : Nat) (w : World) (v : Value) (ks : List K) : Prop := w.ownsRow base 56 kK.k v ks.length (ks.flatMap kK.enc)
theorem fact_no {a b : Tm} (p : List UInt8) (ts : List Tm) {L : Mt.Env} (h : nmB a L = false ∨ nmB b L = false) : Mt.fact a b p ts L = none := by
  unfold nmB at h
  unfold Mt.fact
  rcases h with h | h
  · cases hx : Mt.name a L with
    | none => rfl
    | some s => rw [hx] at h; cases h
  · cases hx : Mt.name b L with
    | none => cases Mt.name a L <;> rfl
    | some s => rw [hx] at h; cases h
theorem fact_yes {a b : Tm} (p : List UInt8) (ts : List Tm) {L : Mt.Env} (h1 : nmB a L = true) (h2 : nmB b L = true) : Mt.fact a b p ts L = (Mt.vals L ts).map fun ks => ⟨nmS a L, nmS b L, p, ks⟩ := by
  unfold nmB at h1 h2
  unfold Mt.fact nmS
  cases hx : Mt.name a L with
  | none => rw [hx] at h1; cases h1
  | some s =>
    cases hy : Mt.name b L with
    | none => rw [hy] at h2; cases h2
    | some s' => rfl
theorem val_two (t : Tm) (L : Mt.Env) : (Mt.val t L = none ∧ valB t L = false) ∨ (∃ k, Mt.val t L = some k ∧ valK t L = k ∧ valB t L = true) := by
  unfold valB valK
  cases Mt.val t L with
  | none => exact .inl ⟨rfl, rfl⟩
  | some k => exact .inr ⟨k, rfl, rfl, rfl⟩
/-- a fact and yes, or none and no -/
def FactAns (e : Ending) (w : World) (o : Option F) : Prop := ∃ z : Fv, e = .returned (.tuple #[z.val, .bool o.isSome]) ∧ RowT kK 56 w z.a z.cap z.ks ∧ z.f = o.getD f0
theorem FactAns.no {w : World} {o : Option F} (h : o = none) : FactAns (.returned (.tuple #[nof.val, .bool false])) w o := ⟨nof, by rw [h]; rfl, RowT.nil _ _ _, by rw [h]; rfl⟩

set_option maxRecDepth 100000 in
set_option maxHeartbeats 2000000 in
theorem msaid_at (ta tb : Tm) (p : List UInt8) (aa : Option Addr) (ac : Nat) (ts : List Tm) (a : Option Addr) (c : Nat) (L : List Bd) (w : World) (ht : Row tK w aa ac ts) (h : Row bK w a c L) (hf : ts.length ≤ 900000) :
    Calls Tryz.prog 83 #[tval ta, tval tb, str p, .slice aa ts.length ac, .slice a L.length c] w fun e w' => FactAns e w' (Mt.fact ta tb p ts L) ∧ Below w.heap.size w w' := by
  have iK : (Tryz.prog.info? 56).map (·.size) = some 3 := by kernel_rfl
  have iT : (Tryz.prog.info? 58).map (·.size) = some 4 := by kernel_rfl
  have iF : (Tryz.prog.info? 36).map (·.size) = some 4 := by kernel_rfl
  have iA : (Tryz.prog.info? 34).map (·.size) = some 1 := by kernel_rfl
  have FN := hideP (fun h1 => fact_no (a := ta) (b := tb) p ts (L := L) h1)
  have FY := hideP (fun h1 h2 => fact_yes (a := ta) (b := tb) p ts (L := L) h1 h2)
  obtain ⟨h0, h1, h2, A0⟩ := boxes3 w (.cells (tv ta).toArray 58) (.cells (tv tb).toArray 58) (.cells #[.string { data := #[] }, .string { data := #[] }, .string { data := #[] }, .slice none 0 0] 36)
  have T1 := hideP (mname_at ta a c L _ (h.below A0 (Nat.le_refl _)))
  generalize hFF : Mt.fact ta tb p ts L = FF at *
  clear hFF
  go_enter Tryz.func83, Tryz.ntmps83
  go_wp2_with (refine wpList_load_all rfl 58 _ rfl w.heap.size 4 58 (tv ta) _ rfl h0 rfl Tryz.underlying58 rfl iT ?_)
  refine T1.out.mono ?_
  rintro e w1 ⟨rfl, b1⟩
  have B1 := Below.then A0 b1
  have g1 := below_heap b1 h1
  have g2 := below_heap b1 h2
  clear T1 b1 h0 h1 h2 A0
  go_wp2_with (refine wpList_load_all rfl 58 _ rfl (w.heap.size + 1) 4 58 (tv tb) _ rfl g1 rfl Tryz.underlying58 rfl iT ?_)
  refine (mname_at tb a c L w1 (h.below B1 (Nat.le_refl _))).mono ?_
  rintro e w2 ⟨rfl, b2⟩
  have B2 := Below.then B1 b2
  have H2 := below_heap b2 g2
  have n2 := heap_lt H2
  clear b2 g1 g2 B1
  cases q1 : nmB ta L with
  | false =>
    have Z := hideP (FN.out (.inl q1))
    clear FN FY q1
    go_wp2_with (refine wpList_store_all rfl 36 _ _ rfl (w.heap.size + 1 + 1) 4 _ 36 (fv nof) rfl rfl H2 rfl rfl iF rfl ?_; intro w3 H3 b3)
    exact bodyPost_ret (results_c1 rfl rfl H3 Tryz.underlying36 rfl iF) rfl ⟨FactAns.no Z.out, B2.trans (b3.lower (by omega) (by omega))⟩
  | true =>
    cases q2 : nmB tb L with
    | false =>
      have Z := hideP (FN.out (.inr q2))
      clear FN FY q1 q2
      go_wp2_with (refine wpList_store_all rfl 36 _ _ rfl (w.heap.size + 1 + 1) 4 _ 36 (fv nof) rfl rfl H2 rfl rfl iF rfl ?_; intro w3 H3 b3)
      exact bodyPost_ret (results_c1 rfl rfl H3 Tryz.underlying36 rfl iF) rfl ⟨FactAns.no Z.out, B2.trans (b3.lower (by omega) (by omega))⟩
    | true =>
      have Z := hideP (FY.out q1 q2)
      clear FN FY q1 q2
      generalize nmS ta L = na at *
      generalize nmS tb L = nb at *
      have A3 := below_alloc w2 (.cells #[.string { data := #[] }, .string { data := #[] }, .string { data := #[] }, .slice none 0 0] 36)
      have N3 := heap_alloc_new w2 (.cells #[.string { data := #[] }, .string { data := #[] }, .string { data := #[] }, .slice none 0 0] 36)
      have H2a := below_heap A3 H2
      go_wp2_with (refine wpList_store_all rfl 36 _ _ rfl w2.heap.size 4 _ 36 (fv ⟨na, nb, p, none, 0, []⟩) rfl rfl N3 rfl rfl iF rfl ?_; intro w3 H3 b3; have T3 := below_tok b3)
      have B3 := Below.then B2 T3
      have G2 := below_heap T3 H2
      have s2 : w.heap.size ≤ w2.heap.size := B2.size
      have s3 : w2.heap.size < w3.heap.size := heap_lt H3
      generalize hR : w2.heap.size = R at *
      clear hR N3 A3 b3 T3 H2 H2a B2
      go_loopw [18, 19, 20, 46] (fun _ _ _ v46 wr => ∃ (i : Nat) (ks : List K) (u : Option Addr) (cu : Nat), v46 = .int .i64 (i : Int) ∧ i ≤ ts.length ∧ Hid (ks.length = i) ∧ wr.heap[R]? = some (.cells (fv ⟨na, nb, p, u, cu, ks⟩).toArray 36) ∧ wr.heap[w.heap.size + 1 + 1]? = some (.cells #[.string { data := #[] }, .string { data := #[] }, .string { data := #[] }, .slice none 0 0] 36) ∧ OwnK w3.heap.size wr (.slice u ks.length cu) ks ∧ Below w.heap.size w wr ∧ w3.heap.size ≤ wr.heap.size ∧ Hid (Mt.vals L ts = (Mt.vals L (ts.drop i)).map fun cs => ks ++ cs)) (fun _ _ _ v46 _ => ts.length - (intOf v46).toNat)
      case atStart => exact ⟨0, [], none, 0, rfl, Nat.zero_le _, rfl, H3, G2, World.ownsRow_nil _ _ _ _, B3, Nat.le_refl _, by show _ = _; rw [List.drop_zero]; cases Mt.vals L ts <;> simp⟩
      case round =>
        obtain ⟨i, ks, u, cu, rfl, hi, hk, HR, HS, OK, B, sr, HV⟩ := hrel
        by_cases hlt : i < ts.length
        · have q3 : (i : Int) < (ts.length : Int) := by omega
          obtain ⟨P1, O1, rfl⟩ := ht.addr (Nat.lt_of_le_of_lt (Nat.zero_le _) hlt)
          have r1 : wr.rangeAt P1 (O1 + i * 4) (tv (ts[i]'hlt)) := (ht.below B (Nat.le_refl _)).range i hlt
          have ST := HV.out
          rw [Mt.vals_step hlt] at ST
          have HST := hideP ST
          clear ST HV
          generalize (ts[i]'hlt) = t at *
          have iQ : (Tryz.prog.info? 58).map (·.size) = some (tv t).length := iT
          have N4 := heap_alloc_new wr (.cells #[.string { data := #[] }, .bool false, .int .i64 0, .string { data := #[] }] 58)
          have r2 : (wr.alloc (.cells #[.string { data := #[] }, .bool false, .int .i64 0, .string { data := #[] }] 58)).rangeAt P1 (O1 + i * 4) (tv t) := fun j v hv => by
            have := r1 j v hv
            rw [(below_alloc wr _).cell (cell_block this)]; exact this
          go_wp2_with (first | (refine wpList_load_mid rfl 58 _ rfl P1 (O1 + i * 4) rfl (tv t) _ r1 Tryz.underlying58 rfl iQ ?_) | (refine wpList_load_mid rfl 58 _ rfl P1 (O1 + i * 4) rfl (tv t) _ r2 Tryz.underlying58 rfl iQ ?_) | (refine wpList_store_all rfl 58 _ _ rfl wr.heap.size 4 _ 58 (tv t) rfl rfl N4 rfl rfl iT rfl ?_; intro w4 H4 b4; have T4 := below_tok b4) | (refine wpList_load_all rfl 58 _ rfl wr.heap.size 4 58 (tv t) _ rfl H4 rfl Tryz.underlying58 rfl iT ?_))
          have B4 := Below.then B T4
          refine (mvalue_at t a c L w4 (h.below B4 (Nat.le_refl _))).mono ?_
          rintro e w5 ⟨rfl, b5⟩
          have T5 := Below.then T4 b5
          have B5 := Below.then B T5
          have HR5 := below_heap T5 HR
          have HS5 := below_heap T5 HS
          have OK5 : OwnK w3.heap.size w5 (.slice u ks.length cu) ks := ownsRow_keep OK (Safe.below T5 : Safe 56 _ _)
          have s5 : w3.heap.size ≤ w5.heap.size := Nat.le_trans sr T5.size
          have n5 := heap_lt HR5
          have n6 := heap_lt HS5
          clear HR HS OK B T4 b5 T5 b4 B4 N4 r1 r2
          have N6 := heap_alloc_new w5 (.cells #[.bool false, .int .i64 0, .string { data := #[] }] 56)
          rcases val_two t L with ⟨u1, u2⟩ | ⟨kk, u1, u2, u3⟩
          · have z0 := HST.out
            rw [u1] at z0
            have Z1 := Z.out
            rw [z0] at Z1
            have Z2 := hideP Z1
            rw [u2]
            clear u1 u2 z0 Z1 HST Z
            generalize valK t L = vk at *
            go_wp2_with (first | (refine wpList_store_all rfl 56 _ _ rfl w5.heap.size 3 _ 56 (kv vk) rfl rfl N6 rfl rfl iK rfl ?_; intro w6 H6 b6; have T6 := below_tok b6; have HS6 := below_heap T6 HS5) | (refine wpList_store_all rfl 36 _ _ rfl (w.heap.size + 1 + 1) 4 _ 36 (fv nof) rfl rfl HS6 rfl rfl iF rfl ?_; intro w7 H7 b7))
            have B6 := Below.then B5 T6
            exact bodyPost_ret (results_c1 rfl rfl H7 Tryz.underlying36 rfl iF) rfl ⟨FactAns.no Z2.out, B6.trans (b7.lower (by omega) B6.size)⟩
          · have z0 := HST.out
            rw [u1] at z0
            have Z1 := hideP (Mt.gather (acc := ks) (c := kk) z0)
            rw [u2, u3]
            clear u1 u2 u3 z0 HST
            have s6' : R < w5.heap.size := n5
            go_wp2_with (first | (refine wpList_store_all rfl 56 _ _ rfl w5.heap.size 3 _ 56 (kv kk) rfl rfl N6 rfl rfl iK rfl ?_; intro w6 H6 b6; have T6 := below_tok b6; have HR6 := below_heap T6 HR5; have c3 := (fv_cells HR6).2.2.2; have A7 := below_alloc w6 (.cells (kv kk).toArray 56); have o6 := ownsRow_keep OK5 (Safe.below T6 : Safe 56 _ _); have o7 := ownsRow_keep o6 (Safe.below A7 : Safe 56 _ _); have R7 : Row kK (w6.alloc (.cells (kv kk).toArray 56)) (some ⟨w6.heap.size, 0, none⟩) 1 [kk] := row_new kK w6 _ _ kk rfl; have hb7 := Nat.le_trans (Nat.le_trans s5 T6.size) A7.size) | (refine wpList_load_all rfl 56 _ rfl w5.heap.size 3 56 (kv kk) _ rfl H6 rfl Tryz.underlying56 rfl iK ?_) | (refine wpList_build_one rfl 34 56 _ rfl (kv kk) _ 3 32 rfl rfl (by decide) (by decide) Tryz.underlying34 Tryz.iK3 ?_) | (at_builtin; refine wpList_append_rec kK _ rfl _ _ 34 56 rfl _ 32 Tryz.underlying34 Tryz.iKk rfl (by decide) w3.heap.size (.slice u ks.length cu) ks [kk] (some ⟨w6.heap.size, 0, none⟩) 1 1 rfl o7 rfl rfl R7 hb7 (by have := hk.out; simp only [List.length_cons, List.length_nil]; omega) ?_; intro v8 w8 o8 g8; obtain ⟨u8, c8, rfl, R8, _⟩ := own_row (D := kK) (xs := ks ++ [kk]) o8 (by have := hk.out; simp only [List.length_append, List.length_cons, List.length_nil]; omega); have HR8 := Safe.grown (ty := 36) o7 g8 (by decide) _ _ (below_heap A7 HR6); have HS8 := Safe.grown (ty := 36) o7 g8 (by decide) _ _ (below_heap A7 (below_heap T6 HS5)); have B8 : Below w.heap.size w w8 := (Below.then (Below.then B5 T6) A7).trans ((own_below o7 g8 hb7).mono B3.size)) | (refine wpList_store_cel rfl 34 _ _ rfl R 3 4 36 (.slice u8 (ks.length + 1) c8) #[str na, str nb, str p, .slice u8 (ks.length + 1) c8] rfl rfl HR8 rfl (by omega) iA rfl rfl ?_; intro w9 H9 b9))
            have e9 : (fv ⟨na, nb, p, u8, c8, ks ++ [kk]⟩).toArray = #[str na, str nb, str p, .slice u8 (ks.length + 1) c8] := by simp [fv]
            rw [← e9] at H9
            have n8 := heap_lt HR8
            exact ⟨⟨i + 1, ks ++ [kk], u8, c8, by go_num, by omega, by show _ = _; rw [List.length_append, hk.out]; rfl, H9, b9.heap (by omega) HS8, ownsRow_keep o8 (Safe.but b9 HR8 (by decide)), B8.trans (b9.lower (by omega) B8.size), Nat.le_trans hb7 (Nat.le_trans g8.size b9.size), Z1⟩, by simp [intOf]; omega⟩
        · have q3 : ¬ (i : Int) < (ts.length : Int) := by omega
          have z0 := HV.out
          rw [Mt.vals_done (by omega)] at z0
          have z1 := Mt.gathered z0
          have Z1 := Z.out
          rw [z1] at Z1
          have Z2 := hideP Z1
          have klen := hk.out
          obtain ⟨u', c', e', RK, _⟩ := own_row (D := kK) OK (by omega)
          cases e'
          clear z0 z1 Z1 Z HV OK
          have n5 := heap_lt HS
          go_wp2_with (first | (refine wpList_load_all rfl 36 _ rfl R 4 36 (fv ⟨na, nb, p, u, cu, ks⟩) _ rfl HR rfl Tryz.underlying36 rfl iF ?_) | (refine wpList_store_all rfl 36 _ _ rfl (w.heap.size + 1 + 1) 4 _ 36 (fv ⟨na, nb, p, u, cu, ks⟩) rfl rfl HS rfl rfl iF rfl ?_; intro w7 H7 b7))
          exact bodyPost_ret (results_c1 rfl rfl H7 Tryz.underlying36 rfl iF) rfl ⟨⟨⟨na, nb, p, u, cu, ks⟩, by rw [Z2.out]; rfl, RK.safe (Safe.but b7 HS (by decide)), by rw [Z2.out]; rfl⟩, B.trans (b7.lower (by omega) B.size)⟩
end Go.Proofs.YtdehimbfcilhpaaGreatDoor

/-
  The parts of a rule and of a literal that lie in a block or a row.
-/
namespace Go.Proofs.YtdehimbfcilhpaaGreatDoor
open Go.RowKit Go.Lib Go.Shelf

theorem Tryz.iS1 : (Tryz.prog.info? 9).map (fun i => (i.zero, i.size, i.bytes)) = some (some (.string .empty), sK.k, 16) := by kernel_rfl
theorem rule_parts10 {w : World} {b : Nat} {x : Rv} (H : w.heap[b]? = some (.cells (rv x).toArray 62)) :
    w.rangeAt b 0 (tv x.home) ∧ w.rangeAt b 6 (tv x.to_) ∧ w.cell? ⟨b, 0, none⟩ = some (str x.home.v) ∧ w.cell? ⟨b, 4, none⟩ = some (str x.pred) ∧ w.cell? ⟨b, 5, none⟩ = some (.slice x.a x.args.length x.cap) ∧ w.cell? ⟨b, 6, none⟩ = some (str x.to_.v) ∧ w.cell? ⟨b, 10, none⟩ = some (.slice x.ba x.body.length x.bcap) := by
  refine ⟨?_, ?_, ?_, ?_, ?_, ?_, ?_⟩
  · exact World.rangeAt_of_block H 0 4
  · exact World.rangeAt_of_block H 6 4
  all_goals (rw [heap_cell H]; rfl)
theorem lit_parts10 {w : World} {b : Nat} {y : Lv} (H : w.heap[b]? = some (.cells (lv y).toArray 85)) :
    w.rangeAt b 0 (tv y.by_) ∧ w.rangeAt b 6 (tv y.at_) ∧ w.cell? ⟨b, 4, none⟩ = some (str y.pred) ∧ w.cell? ⟨b, 5, none⟩ = some (.slice y.a y.args.length y.cap) ∧ w.cell? ⟨b, 6, none⟩ = some (str y.at_.v) := by
  refine ⟨?_, ?_, ?_, ?_, ?_⟩
  · exact World.rangeAt_of_block H 0 4
  · exact World.rangeAt_of_block H 6 4
  all_goals (rw [heap_cell H]; rfl)
theorem lit_in {w : World} {b o : Nat} {y : Lv} (h : w.rangeAt b o (lv y)) : w.rangeAt b o (tv y.by_) ∧ w.rangeAt b (o + 6) (tv y.at_) ∧ w.cell? ⟨b, o + 4, none⟩ = some (str y.pred) ∧ w.cell? ⟨b, o + 5, none⟩ = some (.slice y.a y.args.length y.cap) ∧ w.cell? ⟨b, o + 6, none⟩ = some (str y.at_.v) := by
  refine ⟨fun j u hu => h j u ?_, fun j u hu => ?_, h 4 _ rfl, h 5 _ rfl, h 6 _ rfl⟩
  · have hj : j < 4 := (List.getElem?_eq_some_iff.1 hu).1
    match j, hj with
    | 0, _ => exact hu
    | 1, _ => exact hu
    | 2, _ => exact hu
    | 3, _ => exact hu
  · have hj : j < 4 := (List.getElem?_eq_some_iff.1 hu).1
    have e : ∀ i, o + 6 + i = o + (6 + i) := fun i => Nat.add_assoc ..
    rw [e]
    refine h (6 + j) u ?_
    match j, hj with
    | 0, _ => exact hu
    | 1, _ => exact hu
    | 2, _ => exact hu
    | 3, _ => exact hu
end Go.Proofs.YtdehimbfcilhpaaGreatDoor

/-
  The program's Head.
-/
namespace Go.Proofs.YtdehimbfcilhpaaGreatDoor
open Go.RowKit Go.Lib Go.Shelf

theorem set4_but {w : World} {b : Nat} (x y z u : Value) : But b w ((((w.setCell ⟨b, 0, none⟩ x).setCell ⟨b, 1, none⟩ y).setCell ⟨b, 2, none⟩ z).setCell ⟨b, 3, none⟩ u) := ((((But.refl b w).set 0 x).set 1 y).set 2 z).set 3 u
theorem set4_same {w : World} {b : Nat} {x y z u x' y' z' u' : Value} {T : TypeId} (h : w.heap[b]? = some (.cells #[x', y', z', u'] T)) : ((((w.setCell ⟨b, 0, none⟩ x).setCell ⟨b, 1, none⟩ y).setCell ⟨b, 2, none⟩ z).setCell ⟨b, 3, none⟩ u).heap[b]? = some (.cells #[x, y, z, u] T) := by
  have h1 := heap_setCell_same w b 0 _ T x h
  have h2 := heap_setCell_same _ b 1 _ T y h1
  have h3 := heap_setCell_same _ b 2 _ T z h2
  have h4 := heap_setCell_same _ b 3 _ T u h3
  simpa using h4
theorem rv_cells {w : World} {b : Nat} {x : Rv} (H : w.heap[b]? = some (.cells (rv x).toArray 62)) :
    w.cell? ⟨b, 0, none⟩ = some (str x.home.v) ∧ w.cell? ⟨b, 1, none⟩ = some (.bool x.home.k.num) ∧ w.cell? ⟨b, 2, none⟩ = some (.int .i64 x.home.k.n) ∧ w.cell? ⟨b, 3, none⟩ = some (str x.home.k.s) ∧ w.cell? ⟨b, 4, none⟩ = some (str x.pred) ∧ w.cell? ⟨b, 5, none⟩ = some (.slice x.a x.args.length x.cap) ∧
    w.cell? ⟨b, 6, none⟩ = some (str x.to_.v) ∧ w.cell? ⟨b, 7, none⟩ = some (.bool x.to_.k.num) ∧ w.cell? ⟨b, 8, none⟩ = some (.int .i64 x.to_.k.n) ∧ w.cell? ⟨b, 9, none⟩ = some (str x.to_.k.s) := by
  refine ⟨?_, ?_, ?_, ?_, ?_, ?_, ?_, ?_, ?_, ?_⟩ <;> (rw [heap_cell H]; rfl)

set_option maxRecDepth 100000 in
set_option maxHeartbeats 1000000 in
theorem mHead_at (x : Rv) (a : Option Addr) (c : Nat) (L : List Bd) (w : World) (hr : Rv.Aw w x) (h : Row bK w a c L) (hf : x.args.length ≤ 900000) :
    Calls Tryz.prog 61 #[rval x, .slice a L.length c] w fun e w' => FactAns e w' (Mt.head x.r L) ∧ Below w.heap.size w w' := by
  have iF : (Tryz.prog.info? 36).map (·.size) = some 4 := by kernel_rfl
  obtain ⟨h0, h1, A0⟩ := boxes2 w (.cells #[str x.home.v, .bool x.home.k.num, .int .i64 x.home.k.n, str x.home.k.s, str x.pred, .slice x.a x.args.length x.cap, str x.to_.v, .bool x.to_.k.num, .int .i64 x.to_.k.n, str x.to_.k.s, .slice x.ba x.body.length x.bcap] 62) (.cells #[.string { data := #[] }, .string { data := #[] }, .string { data := #[] }, .slice none 0 0] 36)
  have HD : Hid (Mt.head x.r L = Mt.fact (Mt.place x.home x.to_) x.home x.pred x.args L) := rfl
  go_enter Tryz.func61, Tryz.ntmps61
  go_wp2_with fail
  generalize hW : (w.alloc (.cells #[str x.home.v, .bool x.home.k.num, .int .i64 x.home.k.n, str x.home.k.s, str x.pred, .slice x.a x.args.length x.cap, str x.to_.v, .bool x.to_.k.num, .int .i64 x.to_.k.n, str x.to_.k.s, .slice x.ba x.body.length x.bcap] 62)).alloc (.cells #[.string { data := #[] }, .string { data := #[] }, .string { data := #[] }, .slice none 0 0] 36) = W at *
  clear hW
  have gD := (Below.refl W.heap.size W).drew
  have Ad := Below.then A0 gD
  have H0 : W.drew.heap[w.heap.size]? = some (.cells (rv x).toArray 62) := below_heap gD h0
  have H1 := below_heap gD h1
  have TE := hideP (fun W => meither_at x.to_ x.home W)
  generalize Mt.place x.home x.to_ = pT at *
  have TS := hideP (fun W hW => msaid_at pT x.home x.pred x.a x.cap x.args a c L W (hr.args.below (B := w.heap.size) hW (Nat.le_refl _)) (h.below hW (Nat.le_refl _)) hf)
  clear h0 h1 A0 gD
  go_region_held3 (fun W => W.cell? ⟨w.heap.size, 0, none⟩ = some (str x.home.v) ∧ W.cell? ⟨w.heap.size, 1, none⟩ = some (.bool x.home.k.num) ∧ W.cell? ⟨w.heap.size, 2, none⟩ = some (.int .i64 x.home.k.n) ∧ W.cell? ⟨w.heap.size, 3, none⟩ = some (str x.home.k.s) ∧ W.cell? ⟨w.heap.size, 4, none⟩ = some (str x.pred) ∧ W.cell? ⟨w.heap.size, 5, none⟩ = some (.slice x.a x.args.length x.cap) ∧
    W.cell? ⟨w.heap.size, 6, none⟩ = some (str x.to_.v) ∧ W.cell? ⟨w.heap.size, 7, none⟩ = some (.bool x.to_.k.num) ∧ W.cell? ⟨w.heap.size, 8, none⟩ = some (.int .i64 x.to_.k.n) ∧ W.cell? ⟨w.heap.size, 9, none⟩ = some (str x.to_.k.s)) (first | with_reducible exact rv_cells H0 | with_reducible exact rv_cells H3 | with_reducible exact rv_cells H4 | exact rv_cells ((set4_but _ _ _ _).heap (by omega) H4)) (first
    | (go_at_call 84; refine (TE.out _).mono ?_; rintro e w3 ⟨rfl, b3⟩; have H3 := below_heap b3 H0; have B3 := Below.then Ad b3)
    | (go_at_call 83; refine (TS.out _ B3).mono ?_; rintro e w4 ⟨⟨z, rfl, Rz, hz⟩, b4⟩; have H4 := below_heap b4 H3; have B4 := Below.then B3 b4; have G4 := below_heap b4 (below_heap b3 H1); have e0 : w4.cell? ⟨w.heap.size + 1, 0, none⟩ = some (.string { data := #[] }) := (by rw [heap_cell G4]; rfl); have e1 : w4.cell? ⟨w.heap.size + 1, 1, none⟩ = some (.string { data := #[] }) := (by rw [heap_cell G4]; rfl); have e2 : w4.cell? ⟨w.heap.size + 1, 2, none⟩ = some (.string { data := #[] }) := (by rw [heap_cell G4]; rfl); have e3 : w4.cell? ⟨w.heap.size + 1, 3, none⟩ = some (.slice none 0 0) := (by rw [heap_cell G4]; rfl); have f0 : ∀ j, w4.frozen? ⟨w.heap.size + 1, j, none⟩ = false := heap_frozen G4))
  have BU := set4_but (w := w4) (b := w.heap.size + 1) (str z.at_) (str z.by_) (str z.pred) (.slice z.a z.ks.length z.cap)
  go_wp2_with fail
  exact bodyPost_ret (results_c1 rfl rfl (set4_same G4) Tryz.underlying36 rfl iF) rfl ⟨⟨z, by rw [HD.out]; rfl, Rz.safe (Safe.but BU G4 (by decide)), by rw [HD.out]; exact hz⟩, B4.trans (BU.lower (by omega) B4.size)⟩
end Go.Proofs.YtdehimbfcilhpaaGreatDoor
