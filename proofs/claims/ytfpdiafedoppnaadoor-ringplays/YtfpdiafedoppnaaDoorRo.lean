/-
  Steps of regions that draw their order: a value, a slice of one record, append of records; a principal built.
-/
import Derived.Great.BuildSlice
import Derived.BigQuiet
import Derived.Carry
import Derived.Test.YtfpdiafedoppnaaDoorRi
import Derived.Test.YtfpdiafedoppnaaDoorMKey
namespace Go.Proofs.YtfpdiafedoppnaaDoor
open Go.RowKit

theorem wpOp_of {P : Program} {ops : Array Oper} {Q : Exit → Act → World → Prop} {i : Nat} {K : Act → World → Prop} {a : Act} {w : World} {o : Oper} (hi : ops[i]? = some o) (hgd : o.guard = none) (h : o.wp P a w K Q) : wpOp P ops Q i K a w := by
  unfold wpOp
  simp only [hi]
  rw [if_pos (by unfold Region.wanted; rw [hgd])]
  exact .inl h
theorem wp_value {P : Program} {Q : Exit → Act → World → Prop} {K : Act → World → Prop} {a : Act} {w w' : World} {o : Oper} {v : Value} (he : (execOp a.eval o).run P w = .ok (.value v) w') (h : K (a.put o.dst v) w') : o.wp P a w K Q := by
  unfold Oper.wp
  rw [he]
  exact h

theorem wpOp_load_cel {P : Program} {ops : Array Oper} {Q : Exit → Act → World → Prop} {i : Nat} {K : Act → World → Prop} {a : Act} {w : World} {o : Oper} (hi : ops[i]? = some o) (hgd : o.guard = none) (ty : TypeId) (x : Operand) (ho : o.op = .load ty x) (V off : Nat) (v : Value)
    (hx : a.eval x = .pointer (some ⟨V, off, none⟩)) (hag : ∀ w, (isAgg ty).run P w = .ok false w) (hc : w.cell? ⟨V, off, none⟩ = some v) (h : K (a.put o.dst v) w) : wpOp P ops Q i K a w := by
  refine wpOp_of hi hgd ?_
  unfold Oper.wp execOp
  simp [ho, hx, Instr.loadAt, Instr.sureAddr, loadVar, hag, hc, Result.andThen]
  exact h
/-- one cell stored into a block that is known whole -/
theorem wpOp_store_cel {P : Program} {ops : Array Oper} {Q : Exit → Act → World → Prop} {i : Nat} {K : Act → World → Prop} {a : Act} {w : World} {op : Oper} (hix : ops[i]? = some op) (hgd : op.guard = none) (ty : TypeId) (x y : Operand) (ho : op.op = .store ty x y)
    (V o n : Nat) (T : TypeId) (v : Value) (C' : Array Value) {C : Array Value} (hx : a.eval x = .pointer (some ⟨V, o, none⟩)) (hy : a.eval y = v) (hH : w.heap[V]? = some (.cells C T))
    (hsz : C.size = n) (hin : o < n) (hi : (P.info? ty).map (·.size) = some 1) (h1 : v.oneCell' = true) (hC : C.setIfInBounds o v = C')
    (h : ∀ w', w'.heap[V]? = some (.cells C' T) → But V w w' → K (a.put op.dst undef) w') : wpOp P ops Q i K a w := by
  refine wpOp_of hix hgd ?_
  have hc : v.cells = #[v] := by cases v <;> first | rfl | cases h1
  have ht := there_block hH o 1 (by omega)
  have hst : (storeVar ty ⟨V, o, none⟩ v).run P w = .ok () (w.setCells V o [v]) := by
    have := run_storeCells_cells (P := P) V o [v] 0 w (fun j hj => by simpa using (ht j (by simpa using hj)).1) (fun j hj => by simpa using (ht j (by simpa using hj)).2) (fun u hu => by simp at hu; subst hu; exact h1)
    cases hq : P.info? ty with
    | none => simp [hq] at hi
    | some i =>
      have hs : i.size = 1 := by simpa [hq] using hi
      simpa [storeVar, sizeOf, typeInfo, hq, hc, hs] using this
  unfold Oper.wp execOp
  simp only [ho, hx, hy, Instr.storeAt, Instr.sureAddr, Sem.run_bind, Sem.run_pure, Result.andThen_ok, hst]
  exact h _ (by rw [← hC]; exact heap_setCells V T [v] o C w hH) (But.cells _ _ _ (But.refl V w))
/-- a slice literal of one record -/
theorem wp_build2 {P : Program} {Q : Exit → Act → World → Prop} {K : Act → World → Prop} {a : Act} {w : World} {o : Oper} (t : TypeId) (x y : Operand) (ho : o.op = .build t #[(0, x), (1, y)]) (vx vy v : Value) (hx : a.eval x = vx) (hy : a.eval y = vy) (hr : (Instr.build t #[(0, vx), (1, vy)]).run P w = .ok v w)
    (h : K (a.put o.dst v) w) : o.wp P a w K Q := by
  unfold Oper.wp execOp
  simp [ho, hx, hy, hr, Result.andThen]
  exact h
theorem run_build2 {P : Program} {a : Act} {w : World} {o : Oper} (t : TypeId) (x y : Operand) (ho : o.op = .build t #[(0, x), (1, y)]) (vx vy v : Value) (hx : a.eval x = vx) (hy : a.eval y = vy) (hr : (Instr.build t #[(0, vx), (1, vy)]).run P w = .ok v w) :
    (execOp a.eval o).run P w = .ok (.value v) w := by
  unfold execOp
  simp [ho, hx, hy, hr, Result.andThen]
theorem fold_splice : ∀ (vs : List Value) (o : Nat) (C : Array Value), (vs.zipIdx o).foldl (fun cs x => cs.setIfInBounds x.2 x.1) C = splice C o vs
  | [], _, _ => rfl
  | v :: r, o, C => by rw [List.zipIdx_cons, List.foldl_cons, splice]; exact fold_splice r (o + 1) _
theorem fold_splice_at : ∀ (vs : List Value) (j o : Nat) (C : Array Value), (vs.zipIdx j).foldl (fun cs x => cs.setIfInBounds (o + x.2) x.1) C = splice C (o + j) vs
  | [], _, _, _ => rfl
  | v :: r, j, o, C => by rw [List.zipIdx_cons, List.foldl_cons, splice]; exact fold_splice_at r (j + 1) o _
theorem splice_size : ∀ (vs : List Value) (o : Nat) (C : Array Value), (splice C o vs).size = C.size
  | [], _, _ => rfl
  | v :: r, o, C => by rw [splice, splice_size]; simp
/-- one part of a record or a slice laid -/
theorem fill_one (place : Nat → Option (Nat × Nat)) (C : Array Value) (i off size : Nat) (v : Value) (rest : List (Nat × Value)) (vs : List Value) (hv : v.cells = vs.toArray) (hp : place i = some (off, size)) (hs : vs.length = size) (hc : off + size ≤ C.size) :
    Instr.fill place C ((i, v) :: rest) = Instr.fill place (splice C off vs) rest := by
  rw [Instr.fill]
  simp only [hp, hv, List.size_toArray, hs]
  rw [if_neg (by simp; omega)]
  have hz : vs.toArray.zipIdx = (vs.zipIdx 0).toArray := by simp
  rw [hz]
  simp only [List.foldl_toArray']
  have := fold_splice_at vs 0 off C
  rw [Nat.add_zero] at this
  rw [← this]

theorem wp_build_one {P : Program} {o : Oper} {a : Act} {w : World} {K : Act → World → Prop} {Q : Exit → Act → World → Prop} (t e : TypeId) (x : Operand) (ho : o.op = .buildSlice t 1 #[(0, x)])
    (vs : List Value) (z : Value) (k bytes : Nat) (hx : a.eval x = .agg vs.toArray) (hk : vs.length = k) (hk0 : 0 < k) (hk1 : k ≤ 1000)
    (hu : P.underlying t = some (.slice e)) (hi : (P.info? e).map (fun i => (i.zero, i.size, i.bytes)) = some (some z, k, bytes))
    (h : K (a.put o.dst (.slice (some ⟨w.heap.size, 0, none⟩) 1 1)) (w.alloc (.cells vs.toArray e))) : o.wp P a w K Q := by
  obtain ⟨i0, h0, h1, h2, h3⟩ := info_parts hi
  refine wp_buildSlice t e 1 _ ho _ i0 z hu h0 h1 (by rw [h2]; omega) (by rw [h2]; omega) ?_ h
  rw [h2]
  generalize hC : (Array.range (1 * k)).map (z.cells[· % z.cells.size]!) = C
  have hs : C.size = k := by rw [← hC]; simp
  have e1 : ((#[(0, x)] : Array (Nat × Operand)).map fun (i, x) => (i, a.eval x)).toList = [(0, .agg vs.toArray)] := by simp [hx]
  rw [e1, fill_one _ C 0 0 k _ [] vs rfl (by simp) hk (by omega), Instr.fill, splice_all C vs (by omega)]

/-- append(row, records...) -/
theorem wp_append_rec {α : Type} {P : Program} (D : Kd α) (w : World) {o : Oper} {a : Act} {K : Act → World → Prop} {Q : Exit → Act → World → Prop} (s x : Operand) (t e : TypeId)
    (ho : o.op = .call { callee := .builtin .append, args := #[s, x], argTypes := #[t, t] }) (z : Value) (bytes : Nat) (ht : P.underlying t = some (.slice e)) (hinfo : (P.info? e).map (fun i => (i.zero, i.size, i.bytes)) = some (some z, D.k, bytes)) (hzs : z.cells.size = D.k)
    (base : Nat) (v : Value) (ys xs : List α) (ad : Addr) (m c : Nat) (hs : a.eval s = v) (hown : w.ownsRow base e D.k v ys.length (ys.flatMap D.enc)) (hx : a.eval x = .slice (some ad) m c) (hm : xs.length = m) (hl : Row D w (some ad) c xs) (hbase : base ≤ w.heap.size)
    (hfew : bytes * (ys.length + xs.length) ≤ 140737488355328) (hmax : ys.length + xs.length ≤ 9000000000000)
    (h : ∀ v' w', w'.ownsRow base e D.k v' (ys ++ xs).length ((ys ++ xs).flatMap D.enc) → w.grownBy w' v.ownBlock → K (a.put o.dst v') w') : o.wp P a w K Q := by
  obtain ⟨i0, hi, hz0, hz1, hz2⟩ := info_parts hinfo
  subst hm
  refine wp_append_own w s x t ho base e i0 z D.k bytes ht hi hz0 hz1 hz2 hzs D.pos _ ys.length _ hs hown ad xs.length c (xs.flatMap D.enc) hx (flat_len D.enc D.k D.len xs) (hl.cells ad rfl) (Row.flat_one D xs) (by unfold maxLen; omega) ?_ hbase ?_
  · rw [Nat.mul_comm]; exact hfew
  intro v' w' ho' hg' hn'
  exact h v' w' (by rw [List.length_append, List.flatMap_append]; exact ho') hg'

theorem Tryd.infoPrincipal3 : (Tryd.prog.info? 63).map (fun i => (i.zero, i.size, i.bytes)) = some (some (.agg (str [] :: cs (Sm.zeros 32)).toArray), 33, 48) := by kernel_rfl
theorem Tryd.zeroPrincipal (w : World) : (zeroValue 63).run Tryd.prog w = .ok (.agg (str [] :: cs (Sm.zeros 32)).toArray) w := by kernel_rfl
theorem build_principal (n K : List UInt8) (hK : K.length = 32) (w : World) : (Instr.build 63 #[(0, str n), (1, ba K)]).run Tryd.prog w = .ok (.agg (str n :: cs K).toArray) w := by
  have hu := Tryd.underlying63
  have hs1 := Tryd.sizeOf9
  have hs2 := Tryd.sizeOf42
  have hl : (cs K).length = 32 := by rw [cs_length, hK]
  have e1 : splice (str [] :: cs (Sm.zeros 32)).toArray 0 [str n] = (str n :: cs (Sm.zeros 32)).toArray := rfl
  have e2 : splice (str n :: cs (Sm.zeros 32)).toArray 1 (cs K) = (str n :: cs K).toArray := splice_list (cs K) [str n] (cs (Sm.zeros 32)) (by rw [hl]; rfl)
  unfold Instr.build
  simp only [Sem.run_bind, Tryd.zeroPrincipal w, Result.andThen_ok, run_underlying hu]
  have hm : ∀ w, (Array.mapM (fun (f : Field) => do let s ← sizeOf f.type; pure (f.offset, s)) #[{ name := "name", type := 9, offset := 0, embedded := false, tag := "", pkgPath := "avowal/ring", byteOffset := 0 }, { name := "key", type := 42, offset := 1, embedded := false, tag := "", pkgPath := "avowal/ring", byteOffset := 16 }] : Sem (Array (Nat × Nat))).run Tryd.prog w = .ok #[(0, 1), (1, 32)] w := fun w => by kernel_rfl
  rw [hm w]
  simp only [Result.andThen_ok, Value.cells]
  rw [fill_one _ _ 0 0 1 (str n) _ [str n] rfl rfl rfl (by decide), e1, fill_one _ (str n :: cs (Sm.zeros 32)).toArray 1 1 32 (ba K) _ (cs K) rfl rfl hl (show 33 ≤ _ from Nat.le_refl 33), e2]
  rfl
end Go.Proofs.YtfpdiafedoppnaaDoor

/-
  Which names may make a ring.
-/
namespace Go.Proofs.YtfpdiafedoppnaaDoor
open Go.RowKit

theorem Row.take {α : Type} {D : Kd α} {w : World} {a : Option Addr} {cap : Nat} {xs : List α} (h : Row D w a cap xs) (k : Nat) : Row D w a cap (xs.take k) := by
  refine ⟨Nat.le_trans (by simp; omega) h.room, Nat.le_trans (by simp; omega) h.few, fun ha => ?_, fun ad ha j u hu => h.cells ad ha j u ?_⟩
  · obtain ⟨rfl, hc⟩ := h.void ha
    exact ⟨by simp, hc⟩
  · have e : xs.flatMap D.enc = (xs.take k).flatMap D.enc ++ (xs.drop k).flatMap D.enc := by rw [← List.flatMap_append, List.take_append_drop]
    rw [e, List.getElem?_append_left (List.getElem?_eq_some_iff.1 hu).1]
    exact hu
theorem Row.text {w : World} {b o cap : Nat} {N : List (List UInt8)} (h : Row sK w (some ⟨b, o, none⟩) cap N) (k : Nat) (hk : k < N.length) : w.cell? ⟨b, o + k, none⟩ = some (str N[k]) := by
  have := h.range k hk 0 (str N[k]) rfl
  rwa [show sK.k = 1 from rfl, Nat.mul_one, Nat.add_zero] at this

set_option maxRecDepth 100000 in
set_option maxHeartbeats 800000 in
theorem index6 (w : World) (a : Option Addr) (c n : Nat) (N : List (List UInt8)) (s : List UInt8) (hn : N.length = n) (h : Row sK w a c N) :
    Calls Tryd.prog 44 #[.slice a n c, str s] w fun e w' => ∃ i : Int, e = .returned (.int .i64 i) ∧ (0 ≤ i ↔ s ∈ N) ∧ w = w' := by
  subst hn
  have few := h.few
  go_enter Tryd.func44, Tryd.ntmps44
  go_wp2_with fail
  go_loopw [8] (fun v wr => ∃ k : Nat, v = .int .i64 (k : Int) ∧ k ≤ N.length ∧ Hid (s ∉ N.take k) ∧ w = wr) (fun v _ => N.length - (intOf v).toNat)
  case atStart => exact ⟨0, rfl, by omega, hideP (by simp), rfl⟩
  case round =>
    obtain ⟨k, rfl, hk, hno, rfl⟩ := hrel
    by_cases hlt : k < N.length
    · have q0 : (k : Int) < (N.length : Int) := by omega
      obtain ⟨b, o, rfl⟩ := h.addr (by omega)
      have c1 := h.text k hlt
      by_cases hq : s = N[k]
      · have q1 : (s == N[k]) = true := by simpa using hq
        have hm := hideP (show s ∈ N from hq ▸ List.getElem_mem hlt)
        clear hq
        go_wp2_with fail
        go_ret
        exact ⟨k, rfl, ⟨fun _ => hm.out, fun _ => by omega⟩, rfl⟩
      · have q1 : (s == N[k]) = false := by simpa using hq
        have HN : Hid (s ∉ N.take (k + 1)) := hideP (by
          rw [← List.take_append_getElem hlt]
          simp only [List.mem_append, List.mem_singleton, not_or]
          exact ⟨hno.out, hq⟩)
        clear hq
        go_wp2_with fail
        exact ⟨⟨k + 1, rfl, hlt, HN, by first | rfl | trivial⟩, by simp [intOf]; omega⟩
    · have q0 : ¬ (k : Int) < (N.length : Int) := by omega
      obtain rfl : k = N.length := by omega
      have hno' := hno.out
      rw [List.take_length] at hno'
      have HN := hideP hno'
      clear hno'
      go_wp2_with fail
      go_ret
      exact ⟨-1, rfl, ⟨fun h => absurd h (by decide), fun h => absurd h HN.out⟩, rfl⟩

set_option maxRecDepth 100000 in
theorem contains6 (w : World) (a : Option Addr) (c n : Nat) (N : List (List UInt8)) (s : List UInt8) (hn : N.length = n) (h : Row sK w a c N) :
    Calls Tryd.prog 33 #[.slice a n c, str s] w fun e w' => e = .returned (.bool (decide (s ∈ N))) ∧ w = w' := by
  go_enter Tryd.func33, Tryd.ntmps33
  go_wp2_with fail
  refine (index6 w a c n N s hn h).mono ?_
  rintro _ w1 ⟨i, rfl, hi, rfl⟩
  have Hi := hideP hi
  clear hi
  go_wp2_with fail
  go_ret
  refine ⟨ret_bool ?_, rfl⟩
  rw [Bool.eq_iff_iff]
  simpa using Hi.out

/-- may these be the names of a ring? -/
def okN (N : List (List UInt8)) (k : Nat) : Prop := ∀ i (h : i < N.length), i < k → 1 ≤ N[i].length ∧ N[i].length ≤ 32 ∧ N[i] ∉ N.take i
def may (N : List (List UInt8)) : Prop := 0 < N.length ∧ okN N N.length
theorem okN_zero (N : List (List UInt8)) : okN N 0 := fun _ _ h => absurd h (by omega)
theorem okN_step {N : List (List UInt8)} {k : Nat} (h : okN N k) (hk : k < N.length) (h1 : 1 ≤ N[k].length ∧ N[k].length ≤ 32 ∧ N[k] ∉ N.take k) : okN N (k + 1) := fun i hi hik => by
  by_cases e : i = k
  · subst e; exact h1
  · exact h i hi (by omega)
theorem not_may {N : List (List UInt8)} {k : Nat} (hk : k < N.length) (h : ¬ (1 ≤ N[k].length ∧ N[k].length ≤ 32 ∧ N[k] ∉ N.take k)) : ¬ may N := fun m => h (m.2 k hk hk)

/-- a bool that tells whether p -/
def Says (p : Prop) (e : Ending) : Prop := ∃ d : Bool, e = .returned (.bool d) ∧ (d = true ↔ p)
theorem Says.yes {p : Prop} (h : p) : Says p (.returned (.bool true)) := ⟨true, rfl, fun _ => h, fun _ => rfl⟩
theorem Says.no {p : Prop} (h : ¬ p) : Says p (.returned (.bool false)) := ⟨false, rfl, fun h => (by cases h), fun h' => absurd h' h⟩

set_option maxRecDepth 100000 in
set_option maxHeartbeats 1600000 in
theorem mayBe6 (w : World) (a : Option Addr) (c : Nat) (N : List (List UInt8)) (h : Row sK w a c N) :
    Calls Tryd.prog 25 #[.slice a N.length c] w fun e w' => Says (may N) e ∧ w = w' := by
  have few := h.few
  have room := h.room
  go_enter Tryd.func25, Tryd.ntmps25
  go_wp2_with fail
  go_loopw [7] (fun v wr => ∃ k : Nat, v = .int .i64 (k : Int) ∧ k ≤ N.length ∧ Hid (okN N k) ∧ w = wr) (fun v _ => N.length - (intOf v).toNat)
  case atStart => exact ⟨0, rfl, by omega, hideP (okN_zero N), rfl⟩
  case round =>
    obtain ⟨k, rfl, hk, hok, rfl⟩ := hrel
    by_cases hlt : k < N.length
    · have q0 : (k : Int) < (N.length : Int) := by omega
      obtain ⟨b, o, rfl⟩ := h.addr (by omega)
      have c1 := h.text k hlt
      have HS : Hid (1 ≤ N[k].length ∧ N[k].length ≤ 32 ∧ N[k] ∉ N.take k → okN N (k + 1)) := hideP (okN_step hok.out hlt)
      have HX : Hid (¬ (1 ≤ N[k].length ∧ N[k].length ≤ 32 ∧ N[k] ∉ N.take k) → ¬ may N) := hideP (not_may hlt)
      have K1 := contains6 w (some ⟨b, o, none⟩) c k (N.take k) N[k] (by simp; omega) (h.take k)
      generalize N[k] = n at *
      have hsz : (⟨n.toArray⟩ : ByteArray).size = n.length := by simp [ByteArray.size]
      by_cases h1 : n.length < 1
      · have q1 : (n.length : Int) < 1 := by omega
        have HX' := hideP (HX.out (by omega))
        clear HX HS K1
        go_wp2_with fail
        go_ret
        exact ⟨Says.no HX'.out, rfl⟩
      · have q1 : ¬ (n.length : Int) < 1 := by omega
        by_cases h2 : 32 < n.length
        · have q2 : (32 : Int) < (n.length : Int) := by omega
          have HX' := hideP (HX.out (by omega))
          clear HX HS K1
          go_wp2_with fail
          go_ret
          exact ⟨Says.no HX'.out, rfl⟩
        · have q2 : ¬ (32 : Int) < (n.length : Int) := by omega
          have q3 : (k : Int) ≤ (c : Int) := by omega
          have HK := hideP K1
          clear K1
          go_wp2_with fail
          refine HK.out.mono ?_
          rintro _ w1 ⟨rfl, rfl⟩
          by_cases h3 : n ∈ N.take k
          · have hd : decide (n ∈ N.take k) = true := by simpa using h3
            rw [hd]
            have HX' := hideP (HX.out (fun h => h.2.2 h3))
            clear HX HS HK h3 hd
            go_wp2_with fail
            go_ret
            exact ⟨Says.no HX'.out, rfl⟩
          · have hd : decide (n ∈ N.take k) = false := by simpa using h3
            rw [hd]
            have HS' := hideP (HS.out ⟨by omega, by omega, h3⟩)
            clear HX HS HK h3 hd
            go_wp2_with fail
            exact ⟨⟨k + 1, rfl, hlt, HS', by first | rfl | trivial⟩, by simp [intOf]; omega⟩
    · have q0 : ¬ (k : Int) < (N.length : Int) := by omega
      obtain rfl : k = N.length := by omega
      by_cases h0 : 0 < N.length
      · have q1 : (0 : Int) < (N.length : Int) := by omega
        have HM : Hid (may N) := hideP ⟨h0, hok.out⟩
        go_wp2_with fail
        go_ret
        exact ⟨Says.yes HM.out, rfl⟩
      · have q1 : ¬ (0 : Int) < (N.length : Int) := by omega
        have HM : Hid (¬ may N) := hideP fun h => h0 h.1
        go_wp2_with fail
        go_ret
        exact ⟨Says.no HM.out, rfl⟩
end Go.Proofs.YtfpdiafedoppnaaDoor

/-
  New: a ring of some principals, or why not.
-/
namespace Go.Proofs.YtfpdiafedoppnaaDoor
open Go.RowKit

set_option maxRecDepth 100000 in
set_option maxHeartbeats 1600000 in
theorem new6_big (w : World) (a : Option Addr) (c : Nat) (seed : Int) (N : List (List UInt8)) (hb : ¬ N.length ≤ 6) :
    Calls Tryd.prog 9 #[.int .i64 seed, .slice a N.length c] w fun e w' => e = .returned (.tuple #[.pointer none, .int .i64 3]) ∧ w = w' := by
  have q0 : (6 : Int) < (N.length : Int) := by omega
  clear hb
  go_enter Tryd.func9, Tryd.ntmps9
  go_wp2_with fail
  go_ret2
  exact ⟨rfl, rfl⟩
set_option maxRecDepth 100000 in
set_option maxHeartbeats 1600000 in
theorem new6_arg (w : World) (a : Option Addr) (c : Nat) (seed : Int) (N : List (List UInt8)) (h : Row sK w a c N) (hb : N.length ≤ 6) (hm : ¬ may N) :
    Calls Tryd.prog 9 #[.int .i64 seed, .slice a N.length c] w fun e w' => e = .returned (.tuple #[.pointer none, .int .i64 2]) ∧ w = w' := by
  have q0 : ¬ (6 : Int) < (N.length : Int) := by omega
  go_enter Tryd.func9, Tryd.ntmps9
  go_wp2_with fail
  refine (mayBe6 w a c N h).mono ?_
  rintro _ w1 ⟨⟨d, rfl, hd⟩, rfl⟩
  obtain rfl : d = false := by
    cases d with
    | false => rfl
    | true => exact absurd (hd.1 rfl) hm
  clear hd hm hb
  go_wp2_with fail
  go_ret2
  exact ⟨rfl, rfl⟩

/-- a ring in the making: its first principals -/
structure NewAt (w0 wr : World) (seed : Int) (N : List (List UInt8)) (k : Nat) (v : Value) : Prop where
  ring : wr.heap[w0.heap.size + 1]? = some (.cells #[v, .map (some w0.heap.size)] 58)
  row : wr.ownsRow (w0.heap.size + 2) 63 (pK seed).k v (N.take k).length ((N.take k).flatMap (pK seed).enc)
  book : BookAt wr w0.heap.size []
  bel : Below w0.heap.size w0 wr
  size : w0.heap.size + 2 ≤ wr.heap.size
theorem NewAt.c0 {w0 wr : World} {seed : Int} {N : List (List UInt8)} {k : Nat} {v : Value} (h : NewAt w0 wr seed N k v) : wr.cell? ⟨w0.heap.size + 1, 0, none⟩ = some v := by rw [heap_cell h.ring]; rfl
theorem NewAt.below {w0 wr w' : World} {seed : Int} {N : List (List UInt8)} {k : Nat} {v : Value} (h : NewAt w0 wr seed N k v) (b : Below wr.heap.size wr w') : NewAt w0 w' seed N k v :=
  ⟨below_heap b h.ring, ownsRow_keep h.row (Safe.below b), h.book.block (b.block _ h.book.lt), Below.then h.bel b, Nat.le_trans h.size b.size⟩
/-- one more -/
theorem NewAt.next {w0 wr w' : World} {seed : Int} {N : List (List UInt8)} {k : Nat} {v v' : Value} (h : NewAt w0 wr seed N k v) (hk : k < N.length) (ho : w'.ownsRow (w0.heap.size + 2) 63 (pK seed).k v' (N.take k ++ [N[k]]).length ((N.take k ++ [N[k]]).flatMap (pK seed).enc)) (hg : wr.grownBy w' v.ownBlock) :
    v'.oneCell' = true ∧ w'.heap[w0.heap.size + 1]? = some (.cells #[v, .map (some w0.heap.size)] 58) ∧ ∀ w4 : World, w4.heap[w0.heap.size + 1]? = some (.cells #[v', .map (some w0.heap.size)] 58) → But (w0.heap.size + 1) w' w4 → NewAt w0 w4 seed N (k + 1) v' := by
  have hown : ∀ j, v.ownBlock = some j → w0.heap.size + 2 ≤ j := fun j hj => by
    rcases h.row.2 with ⟨h0, _⟩ | ⟨g, cap, cur, hv, hb, _⟩
    · rw [h0] at hj; cases hj
    · rw [hv] at hj; cases hj; exact hb
  have h1 : v'.oneCell' = true := by
    rcases ho.2 with ⟨h0, _⟩ | ⟨g, cap, cur, hv, hb, _⟩
    · rw [h0]; rfl
    · rw [hv]; rfl
  have hB : Below (w0.heap.size + 2) wr w' := (Below.refl _ _).grown hg h.size hown
  have hr : w'.heap[w0.heap.size + 1]? = some (.cells #[v, .map (some w0.heap.size)] 58) := (hB.block _ (by omega)).trans h.ring
  refine ⟨h1, hr, fun w4 hs hbut => ⟨hs, ?_, ?_, ?_, ?_⟩⟩
  · rw [← List.take_append_getElem hk]
    exact ownsRow_keep ho (Safe.but hbut hr (by decide))
  · exact h.book.block (by rw [hbut.block _ (by have := h.size; have := hB.size; omega) (by omega)]; exact hB.block _ (by omega))
  · exact (h.bel.trans (hB.mono (by omega))).trans (hbut.lower (by omega) (by have := h.size; have := hB.size; omega))
  · have := h.size; have := hB.size; have := hbut.size; omega

/-- all of them -/
theorem NewAt.done {w0 wr : World} {seed : Int} {N : List (List UInt8)} {v : Value} (h : NewAt w0 wr seed N N.length v) (hm : may N) (hb : N.length ≤ 6) (s0 : -9223372036854775808 ≤ seed) (s1 : seed ≤ 9223372036854775807) : ∃ g cap, RingAt wr (w0.heap.size + 1) g cap w0.heap.size seed N [] := by
  have hr := h.row
  rw [List.take_length] at hr
  have hring := h.ring
  obtain ⟨a, c, hv, hrow, _⟩ := own_row (D := pK seed) hr (by omega)
  rcases hr.2 with ⟨_, h0⟩ | ⟨g, cap, cur, hv', _⟩
  · have := hm.1; omega
  · rw [hv'] at hv
    cases hv
    rw [hv'] at hring
    exact ⟨g, _, hring, hrow, h.book, hb, fun n hn => by
      obtain ⟨i, hi, rfl⟩ := List.getElem_of_mem hn
      exact (hm.2 i hi hi).2.1, s0, s1, by simp⟩

set_option maxRecDepth 100000 in
set_option maxHeartbeats 1600000 in
theorem new6_ok (w : World) (a : Option Addr) (c : Nat) (seed : Int) (N : List (List UInt8)) (h : Row sK w a c N) (hL : Laid w) (hb : N.length ≤ 6) (hm : may N) (s0 : -9223372036854775808 ≤ seed) (s1 : seed ≤ 9223372036854775807) :
    Calls Tryd.prog 9 #[.int .i64 seed, .slice a N.length c] w fun e w' => ∃ rb, e = .returned (.tuple #[.pointer (some ⟨rb, 0, none⟩), .int .i64 0]) ∧ (∃ g cap bm, RingAt w' rb g cap bm seed N [] ∧ w.heap.size ≤ bm) ∧ Below w.heap.size w w' := by
  have q0 : ¬ (6 : Int) < (N.length : Int) := by omega
  have hmm := @run_makeMap Tryd.prog
  go_enter Tryd.func9, Tryd.ntmps9
  go_wp2_with fail
  refine (mayBe6 w a c N h).mono ?_
  rintro _ w1 ⟨⟨d, rfl, hd⟩, rfl⟩
  obtain rfl : d = true := hd.2 hm
  have Hm := hideP hm
  clear hd hm
  go_wp2_with fail
  have A0 : NewAt w ((w.alloc (.map #[] 0)).alloc (.cells #[.slice none 0 0, .map (some w.heap.size)] 58)) seed N 0 (.slice none 0 0) := by
    have e1 : (w.alloc (.map #[] 0)).heap.size = w.heap.size + 1 := by simp
    have b2 := below_alloc (w.alloc (.map #[] 0)) (.cells #[.slice none 0 0, .map (some w.heap.size)] 58)
    refine ⟨?_, ⟨by simp, .inl ⟨rfl, by simp⟩⟩, (book_new w).block (b2.block _ (by omega)), Below.then (below_alloc w _) b2, by simp⟩
    have := heap_alloc_new (w.alloc (.map #[] 0)) (.cells #[.slice none 0 0, .map (some w.heap.size)] 58)
    rwa [e1] at this
  have HL : Hid (∀ i (h : i < N.length), N[i].length ≤ 32) := hideP fun i h => (Hm.out.2 i h h).2.1
  have mixed : Tryd.prog.follows .mixedOrders = true := by kernel_rfl
  go_loopw [20] (fun v wr => ∃ k : Nat, v = .int .i64 (k : Int) ∧ k ≤ N.length ∧ ∃ u, NewAt w wr seed N k u) (fun v _ => N.length - (intOf v).toNat)
  case atStart => exact ⟨0, rfl, by omega, _, A0⟩
  case round =>
    obtain ⟨k, rfl, hk, u, hA⟩ := hrel
    clear A0
    by_cases hlt : k < N.length
    · have q1 : (k : Int) < (N.length : Int) := by omega
      obtain ⟨b, o, rfl⟩ := h.addr (by omega)
      have c1 := (h.below hA.bel (Nat.le_refl _)).text k hlt
      have ln := HL.out k hlt
      have HX := hideP (fun (W W' : World) (v' : Value) (hW : NewAt w W seed N k u) => hW.next hlt (w' := W') (v' := v'))
      have hR := fun W => row_new (pK seed) W (str N[k] :: cs (Mm.pkey seed N[k])).toArray 63 N[k] rfl
      generalize N[k] = n at *
      go_wp2_with fail
      have hLd := (hL.below hA.bel).below ((Below.refl wr.heap.size wr).drew)
      have lK := Mm.pkey_length seed n
      have bP := fun W => build_principal n (Mm.pkey seed n) lK W
      have lP : Hid ((str n :: cs (Mm.pkey seed n)).length = 33) := hideP (by rw [List.length_cons, cs_length, lK])
      have c0 := hA.c0
      generalize Mm.pkey seed n = K at *
      refine wp_region_any mixed ?_
      refine wpAny_take (i := 0) (v := (.pointer (some ⟨w.heap.size + 1, 0, none⟩))) rfl (by kernel_rfl) (by kernel_rfl) (by kernel_rfl) (fun _ _ _ h => h) (.inl ⟨by kernel_rfl, fun w => by kernel_rfl⟩) ?_
      refine wpAny_take (i := 1) (v := (.pointer (some ⟨w.heap.size + 1, 0, none⟩))) rfl (by kernel_rfl) (by kernel_rfl) (by kernel_rfl) (fun _ _ _ h => h) (.inl ⟨by kernel_rfl, fun w => by kernel_rfl⟩) ?_
      refine wpAny_take (i := 2) (v := (.pointer (some ⟨w.heap.size + 1, 0, none⟩))) rfl (by kernel_rfl) (by kernel_rfl) (by kernel_rfl) (fun _ _ _ h => h) (.inl ⟨by kernel_rfl, fun w => by kernel_rfl⟩) ?_
      refine wpAny_take (i := 3) (v := (.pointer (some ⟨w.heap.size + 1, 0, none⟩))) rfl (by kernel_rfl) (by kernel_rfl) (by kernel_rfl) (fun _ _ _ h => h) (.inl ⟨by kernel_rfl, fun w => by kernel_rfl⟩) ?_
      refine wpAny_take (i := 5) (v := str n) rfl (by kernel_rfl) (by kernel_rfl) (by kernel_rfl) (fun _ _ _ h => h) (.inl ⟨by kernel_rfl, fun w => by kernel_rfl⟩) ?_
      refine wpAny_take (i := 6) (v := .int .i64 seed) rfl (by kernel_rfl) (by kernel_rfl) (by kernel_rfl) (fun _ _ _ h => h) (.inl ⟨by kernel_rfl, fun w => by kernel_rfl⟩) ?_
      refine wpAny_take (i := 7) (v := str n) rfl (by kernel_rfl) (by kernel_rfl) (by kernel_rfl) (fun _ _ _ h => h) (.inl ⟨by kernel_rfl, fun w => by kernel_rfl⟩) ?_
      refine wpAny_all (rs := [4, 8]) (by kernel_rfl) (by decide) ?_
      intro i hi
      have hi2 : i = 4 ∨ i = 8 := by simpa using hi
      clear hi
      rcases hi2 with rfl | rfl
      · refine wpOp_load_cel rfl rfl 55 _ rfl (w.heap.size + 1) 0 u (by kernel_rfl) Tryd.isAgg55 (by show wr.drew.cell? _ = _; exact c0) ?_
        refine wpAny_all (rs := [8]) (by kernel_rfl) (by decide) ?_
        intro i hi
        obtain rfl := List.mem_singleton.1 hi
        clear hi
        refine wpOp_enter rfl rfl (f := 26) (args := #[.int .i64 seed, str n]) (by kernel_rfl) (key_any seed n wr.drew hLd s0 s1 (by omega)) ?_
        intro w1 b1
        have A1 := hA.below (Below.then (Below.refl wr.heap.size wr).drew b1)
        have c2 := A1.c0
        refine wpAny_all (rs := [9]) (by kernel_rfl) (by decide) ?_
        intro i hi
        obtain rfl := List.mem_singleton.1 hi
        clear hi
        refine wpOp_of rfl rfl (wp_build2 63 _ _ rfl (str n) (ba K) (.agg (str n :: cs K).toArray) (by kernel_rfl) (by kernel_rfl) (bP w1) ?_)
        refine wpAny_all (rs := [10]) (by kernel_rfl) (by decide) ?_
        intro i hi
        obtain rfl := List.mem_singleton.1 hi
        clear hi
        refine wpOp_of rfl rfl (wp_build_one 55 63 _ rfl (str n :: cs K) _ 33 48 (by kernel_rfl) lP.out (by decide) (by decide) Tryd.underlying55 Tryd.infoPrincipal3 ?_)
        have A2 := A1.below (below_alloc w1 (.cells (str n :: cs K).toArray 63))
        refine wpAny_all (rs := [11]) (by kernel_rfl) (by decide) ?_
        intro i hi
        obtain rfl := List.mem_singleton.1 hi
        clear hi
        refine wpOp_of rfl rfl (wp_append_rec (pK seed) _ _ _ 55 63 rfl _ 48 Tryd.underlying55 Tryd.infoPrincipal3 rfl (w.heap.size + 2) u (N.take k) [n] ⟨w1.heap.size, 0, none⟩ 1 1 (by kernel_rfl) A2.row (by kernel_rfl) rfl (hR w1) A2.size (by simp; omega) (by simp; omega) ?_)
        intro v3 w3 o3 g3
        obtain ⟨o4, r4, A4⟩ := HX.out _ w3 v3 A2 o3 g3
        refine wpAny_take (i := 12) (v := (.pointer (some ⟨w.heap.size + 1, 0, none⟩))) rfl (by kernel_rfl) (by kernel_rfl) (by kernel_rfl) (fun _ _ _ h => h) (.inl ⟨by kernel_rfl, fun w => by kernel_rfl⟩) ?_
        refine wpAny_take (i := 13) (v := (.pointer (some ⟨w.heap.size + 1, 0, none⟩))) rfl (by kernel_rfl) (by kernel_rfl) (by kernel_rfl) (fun _ _ _ h => h) (.inl ⟨by kernel_rfl, fun w => by kernel_rfl⟩) ?_
        refine wpAny_all (rs := [14]) (by kernel_rfl) (by decide) ?_
        intro i hi
        obtain rfl := List.mem_singleton.1 hi
        clear hi
        refine wpOp_store_cel rfl rfl 55 _ _ rfl (w.heap.size + 1) 0 2 58 v3 #[v3, .map (some w.heap.size)] (by kernel_rfl) (by kernel_rfl) r4 rfl (by decide) (by kernel_rfl) o4 rfl ?_
        intro w4 r5 x5
        have A5 := A4 w4 r5 x5
        refine wpAny_done (by kernel_rfl) ?_ _
        clear A4 A2 A1 r4 r5 x5 g3 o3 HX hR
        go_wp2_with fail
        exact ⟨⟨k + 1, rfl, hlt, v3, A5⟩, by simp [intOf]; omega⟩
      · refine wpOp_enter rfl rfl (f := 26) (args := #[.int .i64 seed, str n]) (by kernel_rfl) (key_any seed n wr.drew hLd s0 s1 (by omega)) ?_
        intro w1 b1
        have A1 := hA.below (Below.then (Below.refl wr.heap.size wr).drew b1)
        have c2 := A1.c0
        refine wpAny_take (i := 9) (v := .agg (str n :: cs K).toArray) rfl (by kernel_rfl) (by kernel_rfl) (by kernel_rfl) (fun _ _ _ h => h) (.inl ⟨by kernel_rfl, fun W => run_build2 63 _ _ rfl (str n) (ba K) _ (by kernel_rfl) (by kernel_rfl) (bP W)⟩) ?_
        refine wpAny_all (rs := [4, 10]) (by kernel_rfl) (by decide) ?_
        intro i hi
        have hi2 : i = 4 ∨ i = 10 := by simpa using hi
        clear hi
        rcases hi2 with rfl | rfl
        · refine wpOp_load_cel rfl rfl 55 _ rfl (w.heap.size + 1) 0 u (by kernel_rfl) Tryd.isAgg55 c2 ?_
          refine wpAny_all (rs := [10]) (by kernel_rfl) (by decide) ?_
          intro i hi
          obtain rfl := List.mem_singleton.1 hi
          clear hi
          refine wpOp_of rfl rfl (wp_build_one 55 63 _ rfl (str n :: cs K) _ 33 48 (by kernel_rfl) lP.out (by decide) (by decide) Tryd.underlying55 Tryd.infoPrincipal3 ?_)
          have A2 := A1.below (below_alloc w1 (.cells (str n :: cs K).toArray 63))
          refine wpAny_all (rs := [11]) (by kernel_rfl) (by decide) ?_
          intro i hi
          obtain rfl := List.mem_singleton.1 hi
          clear hi
          refine wpOp_of rfl rfl (wp_append_rec (pK seed) _ _ _ 55 63 rfl _ 48 Tryd.underlying55 Tryd.infoPrincipal3 rfl (w.heap.size + 2) u (N.take k) [n] ⟨w1.heap.size, 0, none⟩ 1 1 (by kernel_rfl) A2.row (by kernel_rfl) rfl (hR w1) A2.size (by simp; omega) (by simp; omega) ?_)
          intro v3 w3 o3 g3
          obtain ⟨o4, r4, A4⟩ := HX.out _ w3 v3 A2 o3 g3
          refine wpAny_take (i := 12) (v := (.pointer (some ⟨w.heap.size + 1, 0, none⟩))) rfl (by kernel_rfl) (by kernel_rfl) (by kernel_rfl) (fun _ _ _ h => h) (.inl ⟨by kernel_rfl, fun w => by kernel_rfl⟩) ?_
          refine wpAny_take (i := 13) (v := (.pointer (some ⟨w.heap.size + 1, 0, none⟩))) rfl (by kernel_rfl) (by kernel_rfl) (by kernel_rfl) (fun _ _ _ h => h) (.inl ⟨by kernel_rfl, fun w => by kernel_rfl⟩) ?_
          refine wpAny_all (rs := [14]) (by kernel_rfl) (by decide) ?_
          intro i hi
          obtain rfl := List.mem_singleton.1 hi
          clear hi
          refine wpOp_store_cel rfl rfl 55 _ _ rfl (w.heap.size + 1) 0 2 58 v3 #[v3, .map (some w.heap.size)] (by kernel_rfl) (by kernel_rfl) r4 rfl (by decide) (by kernel_rfl) o4 rfl ?_
          intro w4 r5 x5
          have A5 := A4 w4 r5 x5
          refine wpAny_done (by kernel_rfl) ?_ _
          clear A4 A2 A1 r4 r5 x5 g3 o3 HX hR
          go_wp2_with fail
          exact ⟨⟨k + 1, rfl, hlt, v3, A5⟩, by simp [intOf]; omega⟩
        · refine wpOp_of rfl rfl (wp_build_one 55 63 _ rfl (str n :: cs K) _ 33 48 (by kernel_rfl) lP.out (by decide) (by decide) Tryd.underlying55 Tryd.infoPrincipal3 ?_)
          have A2 := A1.below (below_alloc w1 (.cells (str n :: cs K).toArray 63))
          refine wpAny_all (rs := [4]) (by kernel_rfl) (by decide) ?_
          intro i hi
          obtain rfl := List.mem_singleton.1 hi
          clear hi
          refine wpOp_load_cel rfl rfl 55 _ rfl (w.heap.size + 1) 0 u (by kernel_rfl) Tryd.isAgg55 A2.c0 ?_
          refine wpAny_all (rs := [11]) (by kernel_rfl) (by decide) ?_
          intro i hi
          obtain rfl := List.mem_singleton.1 hi
          clear hi
          refine wpOp_of rfl rfl (wp_append_rec (pK seed) _ _ _ 55 63 rfl _ 48 Tryd.underlying55 Tryd.infoPrincipal3 rfl (w.heap.size + 2) u (N.take k) [n] ⟨w1.heap.size, 0, none⟩ 1 1 (by kernel_rfl) A2.row (by kernel_rfl) rfl (hR w1) A2.size (by simp; omega) (by simp; omega) ?_)
          intro v3 w3 o3 g3
          obtain ⟨o4, r4, A4⟩ := HX.out _ w3 v3 A2 o3 g3
          refine wpAny_take (i := 12) (v := (.pointer (some ⟨w.heap.size + 1, 0, none⟩))) rfl (by kernel_rfl) (by kernel_rfl) (by kernel_rfl) (fun _ _ _ h => h) (.inl ⟨by kernel_rfl, fun w => by kernel_rfl⟩) ?_
          refine wpAny_take (i := 13) (v := (.pointer (some ⟨w.heap.size + 1, 0, none⟩))) rfl (by kernel_rfl) (by kernel_rfl) (by kernel_rfl) (fun _ _ _ h => h) (.inl ⟨by kernel_rfl, fun w => by kernel_rfl⟩) ?_
          refine wpAny_all (rs := [14]) (by kernel_rfl) (by decide) ?_
          intro i hi
          obtain rfl := List.mem_singleton.1 hi
          clear hi
          refine wpOp_store_cel rfl rfl 55 _ _ rfl (w.heap.size + 1) 0 2 58 v3 #[v3, .map (some w.heap.size)] (by kernel_rfl) (by kernel_rfl) r4 rfl (by decide) (by kernel_rfl) o4 rfl ?_
          intro w4 r5 x5
          have A5 := A4 w4 r5 x5
          refine wpAny_done (by kernel_rfl) ?_ _
          clear A4 A2 A1 r4 r5 x5 g3 o3 HX hR
          go_wp2_with fail
          exact ⟨⟨k + 1, rfl, hlt, v3, A5⟩, by simp [intOf]; omega⟩
    · have q1 : ¬ (k : Int) < (N.length : Int) := by omega
      obtain rfl : k = N.length := by omega
      obtain ⟨g, cap, hR⟩ := hA.done Hm.out hb s0 s1
      have HR := hideP hR
      have BW := hA.bel
      clear hR HL mixed
      go_wp2_with fail
      go_ret2
      exact ⟨_, rfl, ⟨g, cap, _, HR.out, Nat.le_refl _⟩, BW⟩
end Go.Proofs.YtfpdiafedoppnaaDoor
