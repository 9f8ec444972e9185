/-
  Rows of records as blocks; slices.IndexFunc, ContainsFunc and DeleteFunc over bindings, at any function value that only reads.
-/
import Derived.Test.YtdehimbfcilhpaaGreatDoorQSp3
import Derived.Test.YtdehimbfcilhpaaGreatDoorQCpt
namespace Go.Proofs.YtdehimbfcilhpaaGreatDoor
open Go.RowKit Go.Lib Go.Shelf Go.Sort

theorem splice_get : ∀ (vs : List Value) (C : Array Value) (o j : Nat), o + vs.length ≤ C.size → (splice C o vs)[j]? = if o ≤ j ∧ j < o + vs.length then vs[j - o]? else C[j]?
  | [], C, o, j, _ => by rw [splice, if_neg (by simp)]
  | v :: r, C, o, j, h => by
    rw [List.length_cons] at h
    rw [splice, splice_get r _ (o + 1) j (by rw [Array.size_setIfInBounds]; omega)]
    by_cases h1 : j = o
    · subst h1
      rw [if_neg (by omega), if_pos (by simp), Array.getElem?_setIfInBounds_self_of_lt (by omega)]; simp
    · by_cases h2 : o + 1 ≤ j ∧ j < o + 1 + r.length
      · rw [if_pos h2, if_pos (by simp; omega), show j - o = (j - (o + 1)) + 1 by omega]; rfl
      · rw [if_neg h2, if_neg (by simp; omega), Array.getElem?_setIfInBounds_ne (Ne.symm h1)]
theorem splice_size : ∀ (vs : List Value) (C : Array Value) (o : Nat), (splice C o vs).size = C.size
  | [], _, _ => rfl
  | v :: r, C, o => by rw [splice, splice_size r, Array.size_setIfInBounds]
/-- block g begins with these records -/
def Blk {α : Type} (D : Kd α) (ty : TypeId) (w : World) (g : Nat) (zs : List α) : Prop := ∃ cur : Array Value, w.heap[g]? = some (.cells cur ty) ∧ zs.length * D.k ≤ cur.size ∧ ∀ (j : Nat) (u : Value), (zs.flatMap D.enc)[j]? = some u → cur[j]? = some u
theorem Blk.row {α : Type} {D : Kd α} {ty : TypeId} {w : World} {g cap : Nat} {zs : List α} (h : Blk D ty w g zs) (hc : zs.length ≤ cap) (hf : zs.length ≤ 4398046510976) : RowT D ty w (some ⟨g, 0, none⟩) cap zs := by
  obtain ⟨cur, h1, h2, h3⟩ := h
  refine ⟨⟨hc, hf, (fun h => by cases h), fun ad ha j u hu => ?_⟩, fun ad ha => by cases ha; exact ⟨cur, h1⟩⟩
  cases ha
  rw [Addr.add_lit, heap_cell h1, Nat.zero_add]; exact h3 j u hu
theorem Blk.block {α : Type} {D : Kd α} {ty : TypeId} {w w' : World} {g : Nat} {zs : List α} (h : Blk D ty w g zs) (hb : w'.heap[g]? = w.heap[g]?) : Blk D ty w' g zs := by
  obtain ⟨cur, h1, h2⟩ := h
  exact ⟨cur, hb.trans h1, h2⟩
theorem Blk.lt {α : Type} {D : Kd α} {ty : TypeId} {w : World} {g : Nat} {zs : List α} (h : Blk D ty w g zs) : g < w.heap.size := by
  obtain ⟨cur, h1, _⟩ := h; exact heap_lt h1
theorem Blk.next {α : Type} {D : Kd α} {ty : TypeId} {w w' : World} {g : Nat} {zs : List α} (h : Blk D ty w g zs) (hb : Below w.heap.size w w') : Blk D ty w' g zs := h.block (hb.block g h.lt)
theorem Blk.safe {α : Type} {D : Kd α} {ty : TypeId} {w w' : World} {g : Nat} {zs : List α} (h : Blk D ty w g zs) (hs : Safe ty w w') : Blk D ty w' g zs := by
  obtain ⟨cur, h1, h2⟩ := h
  exact ⟨cur, hs _ _ h1, h2⟩
theorem Blk.take {α : Type} {D : Kd α} {ty : TypeId} {w : World} {g : Nat} {zs ys : List α} (h : Blk D ty w g (zs ++ ys)) : Blk D ty w g zs := by
  obtain ⟨cur, h1, h2, h3⟩ := h
  refine ⟨cur, h1, by rw [List.length_append, Nat.add_mul] at h2; omega, fun j u hu => h3 j u ?_⟩
  rw [List.flatMap_append, List.getElem?_append_left (List.getElem?_eq_some_iff.1 hu).1]; exact hu
theorem Blk.there {α : Type} {D : Kd α} {ty : TypeId} {w : World} {g : Nat} {zs : List α} (h : Blk D ty w g zs) (o n : Nat) (hn : o + n ≤ zs.length * D.k) : w.there g o n := by
  obtain ⟨cur, h1, h2, _⟩ := h
  exact there_block h1 o n (by omega)
theorem Blk.range {α : Type} {D : Kd α} {ty : TypeId} {w : World} {g : Nat} {zs : List α} (h : Blk D ty w g zs) (i : Nat) (hi : i < zs.length) : w.rangeAt g (i * D.k) (D.enc zs[i]) := fun c v hv => by
  obtain ⟨cur, h1, _, h3⟩ := h
  have hc : c < D.k := by have := (List.getElem?_eq_some_iff.1 hv).1; rwa [D.len] at this
  rw [heap_cell h1]
  exact h3 _ _ (by rw [flat_get D.enc D.k D.len zs i c hi hc, hv])
/-- a record stored over -/
theorem Blk.set {α : Type} {D : Kd α} {ty : TypeId} {w : World} {g : Nat} {zs : List α} (h : Blk D ty w g zs) (i : Nat) (hi : i < zs.length) (x : α) : Blk D ty (w.setCells g (i * D.k) (D.enc x)) g (zs.set i x) := by
  obtain ⟨cur, h1, h2, h3⟩ := h
  have hik : (i + 1) * D.k ≤ zs.length * D.k := Nat.mul_le_mul_right _ hi
  rw [Nat.succ_mul] at hik
  refine ⟨_, heap_setCells g ty (D.enc x) (i * D.k) cur w h1, by rw [splice_size, List.length_set]; exact h2, fun j u hu => ?_⟩
  have hp := D.pos
  have hj : j < zs.length * D.k := by have := (List.getElem?_eq_some_iff.1 hu).1; rwa [flat_len D.enc D.k D.len, List.length_set] at this
  have e1 : j / D.k < zs.length := (Nat.div_lt_iff_lt_mul hp).2 hj
  have e2 : j % D.k < D.k := Nat.mod_lt _ hp
  have e3 : j / D.k * D.k + j % D.k = j := by rw [Nat.mul_comm]; exact Nat.div_add_mod j D.k
  rw [← e3, flat_get D.enc D.k D.len (zs.set i x) (j / D.k) (j % D.k) (by rw [List.length_set]; exact e1) e2] at hu
  rw [splice_get _ _ _ _ (by rw [D.len]; omega), D.len]
  by_cases hd : j / D.k = i
  · rw [if_pos (by rw [← hd]; omega)]
    have : j - i * D.k = j % D.k := by rw [← hd]; omega
    rw [this]
    simp only [hd, List.getElem_set_self] at hu
    exact hu
  · rw [if_neg ?_]
    · refine h3 j u ?_
      rw [List.getElem_set_ne (Ne.symm hd)] at hu
      rw [← e3, flat_get D.enc D.k D.len zs (j / D.k) (j % D.k) e1 e2]; exact hu
    · rintro ⟨q1, q2⟩
      apply hd
      exact Nat.div_eq_of_lt_le (by omega) (by rw [Nat.succ_mul]; omega)
/-- what lies behind some records turned -/
theorem Blk.tail {α : Type} {D : Kd α} {ty : TypeId} {w : World} {g : Nat} {zs ys : List α} (h : Blk D ty w g (zs ++ ys)) (Z : List Value) (hZ : Z.length ≤ ys.length * D.k) : Blk D ty (w.setCells g (zs.length * D.k) Z) g zs := by
  obtain ⟨cur, h1, h2, h3⟩ := h
  rw [List.length_append, Nat.add_mul] at h2
  refine ⟨_, heap_setCells g ty Z (zs.length * D.k) cur w h1, by rw [splice_size]; omega, fun j u hu => ?_⟩
  have hj : j < zs.length * D.k := by have := (List.getElem?_eq_some_iff.1 hu).1; rwa [flat_len D.enc D.k D.len] at this
  rw [splice_get _ _ _ _ (by omega), if_neg (by omega)]
  exact h3 j u (by rw [List.flatMap_append, List.getElem?_append_left (List.getElem?_eq_some_iff.1 hu).1]; exact hu)
/-- a row of the call's own -/
theorem own_blk {α : Type} {D : Kd α} {ty : TypeId} {w : World} {base : Nat} {v : Value} {xs : List α} (h : w.ownsRow base ty D.k v xs.length (xs.flatMap D.enc)) :
    (v = .slice none 0 0 ∧ xs = []) ∨ ∃ g cap, v = .slice (some ⟨g, 0, none⟩) xs.length cap ∧ base ≤ g ∧ xs.length ≤ cap ∧ cap ≤ maxLen ∧ Blk D ty w g xs := by
  rcases h.2 with ⟨hv, h0⟩ | ⟨g, cap, cur, hv, hb, hg, hnc, hcm, hcs, ht⟩
  · exact .inl ⟨hv, List.eq_nil_of_length_eq_zero h0⟩
  · refine .inr ⟨g, cap, hv, hb, hnc, hcm, cur, hg, ?_, fun j u hu => ?_⟩
    · rw [hcs]; exact Nat.mul_le_mul_right _ hnc
    · have hj : j < xs.length * D.k := by have := (List.getElem?_eq_some_iff.1 hu).1; rwa [flat_len D.enc D.k D.len] at this
      rw [← ht, List.getElem?_take, if_pos hj] at hu
      simpa using hu
/-- clear(s), s a slice of records that has some -/
theorem run_clear_any (T E : TypeId) (zs : Array Value) (k : Nat) (hT : Tryz.prog.underlying T = some (.slice E)) (hsz : zs.size = k) (h0 : 0 < k) (h1 : ∀ i (hi : i < zs.size), zs[i].oneCell' = true) (hz : ∀ w, (zeroValue E).run Tryz.prog w = .ok (.agg zs) w)
    (w : World) (b o n c : Nat) (hn : 0 < n) (ht : w.there b o (n * k)) :
    ∃ Z : List Value, Z.length = n * k ∧ ∀ ty, (Builtin.clear_ #[T] ty #[.slice (some ⟨b, o, none⟩) n c]).run Tryz.prog w = .ok (.tuple #[]) (w.setCells b o Z) := by
  have hl : (Builtin.zeroCells zs n).toList.length = n * k := by rw [Array.length_toList, zeroCells_len, hsz]
  refine ⟨(Builtin.zeroCells zs n).toList, hl, fun ty => ?_⟩
  have hst := run_storeCells_cells (P := Tryz.prog) b o _ 0 w (by rw [hl]; simpa using fun j hj => (ht j hj).1) (by rw [hl]; simpa using fun j hj => (ht j hj).2) (zeroCells_one zs n (by omega) h1)
  simp only [Nat.add_zero] at hst
  obtain ⟨m, rfl⟩ : ∃ m, n = m + 1 := ⟨n - 1, by omega⟩
  simp [Builtin.clear_, run_underlying hT, hz, hst, Value.cells]

/-- it lies from block B on -/
def From (B : Nat) (a : Option Addr) : Prop := ∀ ad, a = some ad → B ≤ ad.block
theorem From.none (B : Nat) : From B none := fun _ h => by cases h
theorem From.mono {B B' : Nat} {a : Option Addr} (h : From B a) (hB : B' ≤ B) : From B' a := fun ad ha => Nat.le_trans hB (h ad ha)
/-- all that holds no bindings is as it was -/
def NoB (w w' : World) : Prop := ∀ (k : Nat) (o : Obj), w.heap[k]? = some o → (∀ c z, o ≠ .cells c 99 z) → w'.heap[k]? = some o
theorem NoB.refl (w : World) : NoB w w := fun _ _ h _ => h
theorem NoB.trans {a b c : World} (x : NoB a b) (y : NoB b c) : NoB a c := fun k o h ho => y k o (x k o h ho) ho
theorem NoB.below {w w' : World} (h : Below w.heap.size w w') : NoB w w' := fun _ _ hk _ => below_heap h hk
theorem NoB.but {g : Nat} {w w' : World} {C : Array Value} {z : Nat × Nat} (h : But g w w') (hg : w.heap[g]? = some (.cells C 99 z)) : NoB w w' := fun k o hk ho => h.heap (fun e => by subst e; rw [hg] at hk; cases hk; exact ho _ _ rfl) hk
theorem NoB.safe {w w' : World} (h : NoB w w') {ty : TypeId} (hn : ty ≠ 99) : Safe ty w w' := fun k cur hk => h k _ hk fun c z e => by cases e; exact hn rfl
/-- A FUNCTION VALUE that tells q of bindings, and only reads -/
structure FnB (F : Nat) (cv : Array Value) (q : Bd → Bool) (ok : Bd → Prop) (w0 : World) : Prop where
  enters : ∀ args w, (callFunc F args).run Tryz.prog w = .ok (.enter F args) w
  does : ∀ (b : Bd) (W : World), ok b → NoB w0 W → Calls Tryz.prog F (#[bval b] ++ cv) W fun e w' => e = .returned (.bool (q b)) ∧ Below W.heap.size W w'
theorem FnB.next {F : Nat} {cv : Array Value} {q : Bd → Bool} {ok : Bd → Prop} {w w' : World} (h : FnB F cv q ok w) (n : NoB w w') : FnB F cv q ok w' := ⟨h.enters, fun b W hb hW => h.does b W hb (n.trans hW)⟩
theorem iB4 : (Tryz.prog.info? 99).map (·.size) = some 4 := by kernel_rfl

set_option maxRecDepth 100000 in
set_option maxHeartbeats 1000000 in
theorem idxB_at {F : Nat} {cv : Array Value} {q : Bd → Bool} {ok : Bd → Prop} (a : Option Addr) (c : Nat) (L : List Bd) (w : World) (h : Row bK w a c L) (fn : FnB F cv q ok w) (hok : ∀ b ∈ L, ok b) :
    Calls Tryz.prog 153 #[.slice a L.length c, .func (.func F) #[] cv] w fun e w' => ((e = .returned (.int .i64 (-1)) ∧ ∀ z ∈ L, q z = false) ∨ ∃ i : Nat, ∃ hi : i < L.length, e = .returned (.int .i64 (i : Int)) ∧ q L[i] = true ∧ ∀ z ∈ L.take i, q z = false) ∧ Below w.heap.size w w' := by
  have few := h.few
  have eg := fn.enters
  have FN := hideP fn.does
  go_enter Tryz.func153, Tryz.ntmps153
  go_wp2_with fail
  go_loopw [5, 8] (fun _ u wr => ∃ k : Nat, u = .int .i64 (k : Int) ∧ k ≤ L.length ∧ Hid (∀ z ∈ L.take k, q z = false) ∧ Below w.heap.size w wr) (fun _ u _ => L.length - (intOf u).toNat)
  case atStart => exact ⟨0, rfl, by omega, hideP (by simp), Below.refl _ _⟩
  case round =>
    obtain ⟨k, rfl, hk, hno, B⟩ := hrel
    by_cases hlt : k < L.length
    · have q0 : (k : Int) < (L.length : Int) := by omega
      obtain ⟨P1, O1, rfl⟩ := h.addr (by omega)
      have r1 : wr.rangeAt P1 (O1 + k * 4) (bv (L[k]'hlt)) := (h.below B (Nat.le_refl _)).range k hlt
      have T := hideP (FN.out L[k] wr (hok _ (List.getElem_mem hlt)) (NoB.below B))
      have YE : Hid (q (L[k]'hlt) = true → ∃ hi : k < L.length, q L[k] = true ∧ ∀ z ∈ L.take k, q z = false) := fun h1 => ⟨hlt, h1, hno.out⟩
      have NO : Hid (q (L[k]'hlt) = false → ∀ z ∈ L.take (k + 1), q z = false) := fun h1 z hz => by
        rw [List.take_succ_eq_append_getElem hlt, List.mem_append, List.mem_singleton] at hz
        rcases hz with hz | rfl
        · exact hno.out z hz
        · exact h1
      have iQ : (Tryz.prog.info? 99).map (·.size) = some (bv (L[k]'hlt)).length := iB4
      generalize hqb : q (L[k]'hlt) = b at T YE NO
      generalize (L[k]'hlt) = bd at T r1 iQ
      clear hno hqb FN
      go_wp2_with (refine wpList_load_mid rfl 99 _ rfl P1 (O1 + k * 4) rfl (bv bd) _ r1 Tryz.underlying99 rfl iQ ?_)
      refine T.out.mono ?_
      rintro e w1 ⟨rfl, b1⟩
      cases b with
      | true =>
        have Y := hideP (YE.out rfl)
        clear YE NO
        go_wp2_with fail
        go_ret
        obtain ⟨y1, y2, y3⟩ := Y.out
        exact ⟨.inr ⟨k, y1, rfl, y2, y3⟩, Below.then B b1⟩
      | false =>
        have Y := hideP (NO.out rfl)
        clear YE NO
        go_wp2_with fail
        go_roundw
        case rel => exact ⟨k + 1, rfl, hlt, Y, Below.then B b1⟩
        case measure => simp [intOf]; omega
    · have q0 : ¬ (k : Int) < (L.length : Int) := by omega
      obtain rfl : k = L.length := by omega
      rw [List.take_length] at hno
      clear FN
      go_wp2_with fail
      go_ret
      exact ⟨.inl ⟨rfl, fun x y h => hno.out (x, y) h⟩, B⟩

set_option maxRecDepth 100000 in
theorem hasB_at {F : Nat} {cv : Array Value} {q : Bd → Bool} {ok : Bd → Prop} (a : Option Addr) (c : Nat) (L : List Bd) (w : World) (h : Row bK w a c L) (fn : FnB F cv q ok w) (hok : ∀ b ∈ L, ok b) :
    Calls Tryz.prog 150 #[.slice a L.length c, .func (.func F) #[] cv] w fun e w' => e = .returned (.bool (L.any q)) ∧ Below w.heap.size w w' := by
  have T := hideP (idxB_at a c L w h fn hok)
  go_enter Tryz.func150, Tryz.ntmps150
  go_wp2_with fail
  refine T.out.mono ?_
  rintro e w1 ⟨⟨rfl, hall⟩ | ⟨i, hi, rfl, hyes, _⟩, b1⟩
  · have ha : Hid (L.any q = false) := List.any_eq_false.2 fun z hz => by rw [hall z hz]; decide
    clear hall
    go_wp2_with fail
    go_ret
    exact ⟨by rw [ha.out]; rfl, b1⟩
  · have ha : Hid (L.any q = true) := List.any_eq_true.2 ⟨_, List.getElem_mem hi, hyes⟩
    clear hyes
    have hq : (i : Int) ≥ 0 := by omega
    go_wp2_with fail
    go_ret
    exact ⟨by rw [ha.out]; simp, b1⟩
end Go.Proofs.YtdehimbfcilhpaaGreatDoor

/-
  slices.DeleteFunc over bindings.
-/
namespace Go.Proofs.YtdehimbfcilhpaaGreatDoor
open Go.RowKit Go.Lib Go.Shelf Go.Sort

theorem clear_binds (w : World) (b o n c : Nat) (hn : 0 < n) (ht : w.there b o (n * 4)) :
    ∃ Z : List Value, Z.length = n * 4 ∧ ∀ ty, (Builtin.clear_ #[65] ty #[.slice (some ⟨b, o, none⟩) n c]).run Tryz.prog w = .ok (.tuple #[]) (w.setCells b o Z) :=
  run_clear_any 65 99 #[.string .empty, .bool false, .int .i64 0, .string .empty] 4 Tryz.underlying65 rfl (by decide) (fun i hi => by
    match i, hi with
    | 0, _ => rfl
    | 1, _ => rfl
    | 2, _ => rfl
    | 3, _ => rfl) Tryz.zeroValue99 w b o n c hn ht
theorem wpList_store_lst {P : Program} {ops : Array Oper} {rest : List Oper} {op : Oper} {a : Act} {w : World} {Q : Exit → Act → World → Prop} (hgd : op.guard = none) (ty : TypeId) (x y : Operand) (ho : op.op = .store ty x y)
    (V o n : Nat) (vs : List Value) (hx : a.eval x = .pointer (some ⟨V, o, none⟩)) (hy : a.eval y = .agg vs.toArray) (ht : w.there V o n) (hn : vs.length = n) (hi : (P.info? ty).map (·.size) = some n) (h1 : vs.all (·.oneCell') = true)
    (h : wpList P ops Q rest (a.put op.dst undef) (w.setCells V o vs)) : wpList P ops Q (op :: rest) a w := by
  subst hn
  exact wpList_store_mid hgd ty x y ho V o vs.toArray hx hy (by simpa using ht) (by simpa using hi) (by simpa using h1) h
theorem midB_get {α : Type} (zs L : List α) (t : Nat) (ht : t < zs.length) (hL : L.length ≤ t) (h : t < (L ++ zs.drop L.length).length) : (L ++ zs.drop L.length)[t]'h = zs[t] := by
  rw [List.getElem_append_right hL, List.getElem_drop]
  congr 1; omega
theorem midB_set {α : Type} (zs L : List α) (p : α) (hL : L.length < zs.length) : (L ++ zs.drop L.length).set L.length p = (L ++ [p]) ++ zs.drop (L ++ [p]).length := by
  rw [List.set_append_right _ _ (Nat.le_refl _), Nat.sub_self, List.drop_eq_getElem_cons hL, List.set_cons_zero]
  simp

set_option maxRecDepth 100000 in
set_option maxHeartbeats 400000 in
theorem delB_at {F : Nat} {cv : Array Value} {q : Bd → Bool} {ok : Bd → Prop} (base : Nat) (v : Value) (zs : List Bd) (w : World) (hO : w.ownsRow base 99 bK.k v zs.length (zs.flatMap bK.enc)) (hb : base ≤ w.heap.size) (fn : FnB F cv q ok w) (hok : ∀ b ∈ zs, ok b) (few : zs.length ≤ 1000000) :
    Calls Tryz.prog 143 #[v, .func (.func F) #[] cv] w fun e w' => (∃ a' c', e = .returned (.slice a' (zs.filter fun b => !q b).length c') ∧ RowT bK 99 w' a' c' (zs.filter fun b => !q b) ∧ From base a') ∧ Below base w w' ∧ NoB w w' := by
  obtain ⟨a0, c0, hv0, R0, _⟩ := own_row (D := bK) hO (by omega)
  have T := hideP (idxB_at a0 c0 zs w R0.row fn hok)
  have eg := fn.enters
  have FN := hideP fn.does
  rcases own_blk (D := bK) hO with ⟨rfl, rfl⟩ | ⟨g, c, rfl, hg0, hcap, hcm, hB⟩
  · cases hv0
    clear hO R0
    go_enter Tryz.func143, Tryz.ntmps143
    go_wp2_with fail
    refine T.out.mono ?_
    rintro e w1 ⟨⟨rfl, _⟩ | ⟨i, hi, rfl, _⟩, b1⟩
    · go_wp2_with fail
      go_ret
      exact ⟨⟨none, 0, rfl, RowT.nil _ _ _, From.none _⟩, b1.mono hb, NoB.below b1⟩
    · simp at hi
  · cases hv0
    obtain ⟨cur0, hcur0, _⟩ := id hB
    have KB : ∀ W, But g w W → NoB w W := fun W h => NoB.but h hcur0
    clear hO R0
    go_enter Tryz.func143, Tryz.ntmps143
    go_wp2_with fail
    refine T.out.mono ?_
    rintro e w1 ⟨hcase, b1⟩
    rcases hcase with ⟨rfl, hall⟩ | ⟨i, hi, rfl, hyes, hbefore⟩
    · have hf : Hid (zs.filter (fun b => !q b) = zs) := List.filter_eq_self.2 fun z h => by rw [hall z h]; rfl
      clear hall
      go_wp2_with fail
      go_ret
      rw [hf.out]
      exact ⟨⟨_, _, rfl, (hB.next b1).row hcap (by omega), fun ad ha => by cases ha; exact hg0⟩, b1.mono hb, NoB.below b1⟩
    · have hst : Hid ((zs.take (i + 1)).filter (fun b => !q b) = zs.take i) := by
        show _ = _
        rw [List.take_succ_eq_append_getElem hi, List.filter_append, List.filter_eq_self.2 fun z h => by rw [hbefore z h]; rfl]
        simp [hyes]
      clear hyes hbefore
      have hne : ((i : Int) == -1) = false := by rw [beq_eq_false_iff_ne]; omega
      go_wp2_with fail
      have hli : (zs.take i).length = i := by rw [List.length_take]; omega
      go_loopw [5, 6, 7] (fun v5 v6 _ wr => ∃ (t : Nat) (L : List Bd), i < t ∧ t ≤ zs.length ∧ v6 = .int .i64 (t : Int) ∧ v5 = .int .i64 (L.length : Int) ∧ Hid (L = (zs.take t).filter fun b => !q b) ∧ L.length < t ∧ Blk bK 99 wr g (L ++ zs.drop L.length) ∧ But g w wr) (fun _ v6 _ _ => zs.length - (intOf v6).toNat)
      case atStart => exact ⟨i + 1, zs.take i, by omega, by omega, by simp, by rw [hli], hst.out.symm, by omega, by rw [hli, List.take_append_drop]; exact hB.next b1, But.of_below b1⟩
      case round =>
        obtain ⟨t, L, hit, ht, rfl, rfl, hL, hLl, hR, hbut⟩ := hrel
        have hRl : (L ++ zs.drop L.length).length = zs.length := by simp; omega
        by_cases hlt : t < zs.length
        · have q1 : (t : Int) < (zs.length : Int) := by omega
          have rt : wr.rangeAt g (t * 4) (bv (zs[t]'hlt)) := by
            have := hR.range t (by omega)
            rw [midB_get zs L t hlt (by omega)] at this
            exact this
          have hfil : Hid ((zs.take (t + 1)).filter (fun b => !q b) = (zs.take t).filter (fun b => !q b) ++ [zs[t]'hlt].filter fun b => !q b) := by
            show _ = _
            rw [List.take_succ_eq_append_getElem hlt, List.filter_append]
          have T2 := hideP (fun W h => FN.out (zs[t]'hlt) W (hok _ (List.getElem_mem hlt)) ((KB wr hbut).trans h))
          have YE : Hid (q (zs[t]'hlt) = false → L ++ [zs[t]'hlt] = (zs.take (t + 1)).filter fun b => !q b) := fun h => by
            rw [hfil.out, ← hL.out]; simp [h]
          have NO : Hid (q (zs[t]'hlt) = true → L = (zs.take (t + 1)).filter fun b => !q b) := fun h => by
            rw [hfil.out, ← hL.out]; simp [h]
          have iQ : (Tryz.prog.info? 99).map (·.size) = some (bv (zs[t]'hlt)).length := iB4
          generalize q (zs[t]'hlt) = yn at T2 YE NO
          generalize (zs[t]'hlt) = p at T2 rt iQ YE
          have H1 := heap_alloc_new wr (.cells #[.string { data := #[] }, .bool false, .int .i64 0, .string { data := #[] }] 99)
          clear hL hfil FN
          go_wp2_with (first
            | (refine wpList_load_mid rfl 99 _ rfl g (t * 4) rfl (bv p) _ rt Tryz.underlying99 rfl iQ ?_)
            | (refine wpList_store_all rfl 99 _ _ rfl wr.heap.size 4 _ 99 (bv p) rfl rfl H1 rfl rfl iB4 rfl ?_; intro w2 H2 b2; have B2 := below_tok b2)
            | (refine wpList_load_all rfl 99 _ rfl wr.heap.size 4 99 (bv p) _ rfl H2 rfl Tryz.underlying99 rfl iB4 ?_))
          refine (T2.out _ (NoB.below B2)).mono ?_
          rintro e w3 ⟨rfl, b3⟩
          have B3 := Below.then B2 b3
          have R3 := hR.next B3
          have H3 := below_heap b3 H2
          have M3 := hbut.below B3
          cases yn with
          | false =>
            have Y := hideP (YE.out rfl)
            have hl : L.length < (L ++ zs.drop L.length).length := by rw [hRl]; omega
            have S3 : Blk bK 99 (w3.setCells g (L.length * 4) (bv p)) g ((L ++ [p]) ++ zs.drop (L ++ [p]).length) := by
              rw [← midB_set zs L p (by omega)]
              exact R3.set L.length hl p
            have M4 : But g w (w3.setCells g (L.length * 4) (bv p)) := M3.trans (But.cells (bv p) (L.length * 4) _ (But.refl g w3))
            have y1 : (L ++ [p]).length = L.length + 1 := by simp
            have Y1 := hideP y1
            clear y1
            have th : w3.there g (L.length * 4) 4 := R3.there (L.length * 4) 4 (by rw [hRl]; show L.length * 4 + 4 ≤ zs.length * 4; omega)
            have hq : (L.length : Int) < (zs.length : Int) := by omega
            clear YE NO
            have HRl := hideP hRl
            clear hRl
            have hS3 := hideP S3
            have hM4 := hideP M4
            clear S3 M4
            go_wp2_with (first
              | (refine wpList_load_all rfl 99 _ rfl wr.heap.size 4 99 (bv p) _ rfl (by with_reducible exact H3) rfl Tryz.underlying99 rfl iB4 ?_)
              | (refine wpList_store_lst (by rfl) 99 _ _ (by rfl) g (L.length * 4) 4 (bv p) (by rfl) (by rfl) (by with_reducible exact th) (by rfl) iB4 (by rfl) ?_))
            go_roundw
            case rel => exact ⟨t + 1, L ++ [p], by omega, by omega, rfl, (by rw [Y1.out]; rfl), Y, (by rw [Y1.out]; omega), hS3.out, hM4.out⟩
            case measure => simp [intOf]; omega
          | true =>
            have Y := hideP (NO.out rfl)
            clear YE NO
            go_wp2_with fail
            go_roundw
            case rel => exact ⟨t + 1, L, by omega, by omega, rfl, rfl, Y, by omega, R3, M3⟩
            case measure => simp [intOf]; omega
        · have q1 : ¬ (t : Int) < (zs.length : Int) := by omega
          have qd : L.length < zs.length := by omega
          obtain ⟨Z, hZ, hcl⟩ := clear_binds wr g (L.length * 4) (zs.length - L.length) (c0 - L.length) (by omega) (hR.there (L.length * 4) ((zs.length - L.length) * 4) (by rw [hRl]; show L.length * 4 + (zs.length - L.length) * 4 ≤ zs.length * 4; omega))
          have qe : (L.length : Int) ≤ (zs.length : Int) := by omega
          have qf : ¬ c0 = L.length := by omega
          have qg : (L.length : Int) ≤ (c0 : Int) := by omega
          have HL : Hid (zs.filter (fun b => !q b) = L) := by show _ = _; rw [hL.out, List.take_of_length_le (by omega)]
          have S3 := hR.tail Z (by rw [hZ, List.length_drop]; exact Nat.le_refl _)
          clear hL FN
          go_wp2_with fail
          go_ret
          rw [HL.out]
          have M3 := hbut.cells Z (L.length * 4) _
          exact ⟨⟨_, _, rfl, S3.row (by omega) (by omega), fun ad ha => by cases ha; exact hg0⟩, M3.lower hg0 hb, KB _ M3⟩
end Go.Proofs.YtdehimbfcilhpaaGreatDoor
