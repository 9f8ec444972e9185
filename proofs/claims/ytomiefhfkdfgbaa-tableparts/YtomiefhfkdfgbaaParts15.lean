/-
  TableParts, walked.
-/
import Derived.Test.YtomiefhfkdfgbaaOr15
import Derived.Deep.AppendLies
namespace Go.Proofs.Ytomiefhfkdfgbaa
open Go.RowKit Go.Sort

theorem boxF_cells {W : World} {b : Nat} {x : Fv} (h : W.heap[b]? = some (.cells #[str x.at_, str x.by_, str x.pred, .slice x.a x.ks.length x.cap] 34)) : W.cell? ⟨b, 0, none⟩ = some (str x.at_) ∧ W.cell? ⟨b, 1, none⟩ = some (str x.by_) ∧ W.cell? ⟨b, 2, none⟩ = some (str x.pred) ∧ W.cell? ⟨b, 3, none⟩ = some (.slice x.a x.ks.length x.cap) :=
  ⟨by rw [heap_cell h]; rfl, by rw [heap_cell h]; rfl, by rw [heap_cell h]; rfl, by rw [heap_cell h]; rfl⟩
def isP (x : Fv) (f : F) : Bool := decide (f.pred = x.pred) && decide (f.at_ = x.at_)
/-- a row of facts of the call's own, one more -/
theorem wpList_append_one (w : World) {ops : Array Oper} {rest : List Oper} {o : Oper} {a : Act} {Q : Exit → Act → World → Prop} (hgd : o.guard = none) (s x : Operand)
    (ho : o.op = .call { callee := .builtin .append, args := #[s, x], argTypes := #[41, 41] })
    (base : Nat) (v : Value) (ys : List Fv) (z : Fv) (k : Nat) (hs : a.eval s = v) (hown : w.ownsRow base 34 fK.k v ys.length (ys.flatMap fK.enc)) (hx : a.eval x = .slice (some ⟨k, 0, none⟩) 1 1) (hl : Row fK w (some ⟨k, 0, none⟩) 1 [z]) (hb : base ≤ w.heap.size) (hn : ys.length ≤ 900000)
    (h : ∀ g cap w', w'.ownsRow base 34 fK.k (.slice (some ⟨g, 0, none⟩) (ys ++ [z]).length cap) (ys ++ [z]).length ((ys ++ [z]).flatMap fK.enc) → w.grownBy w' v.ownBlock → (v.ownBlock = some g ∨ g = w.heap.size) → wpList Try.prog ops Q rest (a.put o.dst (.slice (some ⟨g, 0, none⟩) (ys ++ [z]).length cap)) w') : wpList Try.prog ops Q (o :: rest) a w := by
  obtain ⟨i0, hi, hz0, hz1, hz2⟩ := info_parts Try.iFk15
  refine wpList_append_lies w hgd s x 41 ho base 34 i0 _ 4 72 Try.underlying41 hi hz0 hz1 hz2 rfl (by decide) v ys.length (ys.flatMap fK.enc) hs hown ⟨k, 0, none⟩ 1 1 (fK.enc z) hx rfl (fun j u hu => hl.cells _ rfl j u (by simpa using hu)) (fun u hu => List.all_eq_true.1 (fK.one z) u hu) (by omega) (by unfold maxLen; omega) (by omega) hb _ rfl ?_
  intro g cap w' h1 h2 h3 _
  have e : (ys ++ [z]).length = ys.length + 1 := by simp
  have e2 : (ys ++ [z]).flatMap fK.enc = ys.flatMap fK.enc ++ fK.enc z := by simp
  have := h g cap w' (by rw [e, e2]; exact h1) h2 h3
  rw [e] at this
  exact this
/-- a row that another one's growth leaves -/
theorem owns_other {w w' : World} {base n : Nat} {v v2 : Value} {xs : List Value} (h : w.ownsRow base 34 fK.k v2 n xs) (hg : w.grownBy w' v.ownBlock) (hn : v2.ownBlock = none ∨ v2.ownBlock ≠ v.ownBlock) : w'.ownsRow base 34 fK.k v2 n xs := by
  obtain ⟨h1, h2⟩ := h
  refine ⟨h1, ?_⟩
  rcases h2 with h2 | ⟨g, cap, cur, hv, hb, hh, r⟩
  · exact .inl h2
  · refine .inr ⟨g, cap, cur, hv, hb, (hg.block g (heap_lt hh) (fun e => ?_)).trans hh, r⟩
    rw [hv] at hn
    rcases hn with hn | hn
    · cases hn
    · exact hn e
theorem apart_next {w : World} {base n g : Nat} {v v2 : Value} {xs : List Value} (h : w.ownsRow base 34 fK.k v2 n xs) (hat : v.ownBlock = some g ∨ g = w.heap.size) (hn : v2.ownBlock = none ∨ v2.ownBlock ≠ v.ownBlock) : v2.ownBlock = none ∨ v2.ownBlock ≠ some g := by
  rcases hn with hn | hn
  · exact .inl hn
  · rcases hat with hat | rfl
    · rw [← hat]; exact .inr hn
    · rcases h.2 with ⟨hv, _⟩ | ⟨g', cap, cur, hv, _, hh, _⟩
      · rw [hv]; exact .inl rfl
      · rw [hv]
        refine .inr fun e => ?_
        have := heap_lt hh
        have e' : g' = w.heap.size := by cases e; rfl
        omega
theorem own_list {w : World} {B : Nat} {u : Option Addr} {d : Nat} {zs : List Fv} (h : w.ownsRow B 34 fK.k (.slice u (List.length zs) d) zs.length (zs.flatMap fK.enc)) (hl : zs.length ≤ 4096) (ha : ∀ z ∈ zs, RowT kK 50 w z.a z.cap z.ks) : Own15 0 w u d zs := by
  obtain ⟨a', c', e, hr, _⟩ := own_row (D := fK) h (by omega)
  cases e
  obtain ⟨a2, c2, e2, OF⟩ := own_facts (xs := zs) h (by omega)
  cases e2
  exact ⟨hr, OF.most, fun _ _ => Nat.zero_le _, ha, fun _ _ _ _ => Nat.zero_le _⟩
theorem take_two {L : List F} {p : F → Bool} {ws : List Fv} (hs : SS L) (hw : ws.map Fv.f = L.filter p) {k : Nat} (hk : k < ws.length) : hasF (Tb.takes L ((ws.map Fv.f).take k)) ws[k].f = true ∧ (¬ hasF (Tb.take (Tb.takes L ((ws.map Fv.f).take k)) ws[k].f) ws[k].f = true) ∧ Tb.take (Tb.take (Tb.takes L ((ws.map Fv.f).take k)) ws[k].f) ws[k].f = Tb.takes L ((ws.map Fv.f).take (k + 1)) := by
  have hk' : k < (ws.map Fv.f).length := by simpa using hk
  have e : L.filter p = (ws.map Fv.f).take k ++ ws[k].f :: (ws.map Fv.f).drop (k + 1) := by
    rw [← hw]
    conv => lhs; rw [← List.take_append_drop k (ws.map Fv.f), List.drop_eq_getElem_cons hk', List.getElem_map]
  obtain ⟨h1, h2⟩ := Tb.takes_at hs p e
  refine ⟨(hasF_iff _ _).2 h1, fun h => h2 ((hasF_iff _ _).1 h), ?_⟩
  rw [take_none h2, List.take_succ_eq_append_getElem hk', List.getElem_map]
  unfold Tb.takes
  rw [List.foldl_append]; rfl
theorem apart_sym {u v : Value} (h : u.ownBlock = none ∨ u.ownBlock ≠ v.ownBlock) : v.ownBlock = none ∨ v.ownBlock ≠ u.ownBlock := by
  rcases h with h | h
  · rw [h]
    cases v.ownBlock with
    | none => exact .inl rfl
    | some g => exact .inr (fun e => by cases e)
  · exact .inr (fun e => h e.symm)
theorem filt_snoc {p : F → Bool} {zs : List Fv} {k : Nat} (hk : k < zs.length) : (zs.take (k + 1)).filter (fun z => p z.f) = (zs.take k).filter (fun z => p z.f) ++ (if p zs[k].f then [zs[k]] else []) := by
  rw [List.take_succ_eq_append_getElem hk, List.filter_append]
  simp [List.filter_cons]
theorem filt_map {p : F → Bool} (zs : List Fv) : (zs.filter fun z => p z.f).map Fv.f = (zs.map Fv.f).filter p := by rw [List.filter_map]; rfl
theorem of_isP {x : Fv} (h1 : x.at_ ≠ []) (h2 : x.pred ≠ []) (l : List F) : Tb.of x.at_ [] x.pred l = l.filter (isP x) := by
  unfold Tb.of isP
  congr 1
  funext f
  have e1 : Tb.any x.at_ f.at_ = decide (f.at_ = x.at_) := by
    unfold Tb.any
    cases hx : x.at_ with
    | nil => exact absurd hx h1
    | cons y r => simp only [List.isEmpty_cons, Bool.false_or, decide_eq_decide]; exact eq_comm
  have e2 : Tb.any x.pred f.pred = decide (f.pred = x.pred) := by
    unfold Tb.any
    cases hx : x.pred with
    | nil => exact absurd hx h2
    | cons y r => simp only [List.isEmpty_cons, Bool.false_or, decide_eq_decide]; exact eq_comm
  rw [e1, e2]
  unfold Tb.any
  simp [Bool.and_comm]

set_option maxRecDepth 100000 in
set_option maxHeartbeats 8000000 in
theorem tableParts_walk (a : Option Addr) (c : Nat) (xs : List Fv) (x : Fv) (w : World) (hl : Lies w a c xs) (hx : ∀ x ∈ xs, Fv.At w x ∧ TxF x) (hfx : Fv.At w x) (_ : TxF x) :
    Calls Try.prog 5 #[.slice a xs.length c, x.val] w fun e w' => e = .returned (.bool true) ∧ Below w.heap.size w w' := by
  have LV := hideP (fun W => live15_at W)
  have PM := hideP (fun (W : World) (b : Nat) (fs : List F) (x : Fv) (h : PutAt w b fs W) (hx : Fv.At W x) => put_more x h hx)
  have HX := hideP hx
  have xfew := hfx.few
  have A0 := below_alloc w (.cells #[str x.at_, str x.by_, str x.pred, .slice x.a x.ks.length x.cap] 34)
  have N0 := heap_alloc_new w (.cells #[str x.at_, str x.by_, str x.pred, .slice x.a x.ks.length x.cap] 34)
  go_enter Try.func5, Try.ntmps5
  go_wp2_with fail
  generalize hW0 : w.alloc (.cells #[str x.at_, str x.by_, str x.pred, .slice x.a x.ks.length x.cap] 34) = w0 at *
  clear hW0
  refine (weight15 300 (by decide) a c xs w0 (hl.below A0 (Nat.le_refl _)) (fun x h => ((hx x h).1).below A0 (Nat.le_refl _)) (fun x h => (hx x h).2)).mono ?_
  rintro e w1 ⟨⟨r, rfl, hr⟩, G1⟩
  have N1 := below_heap G1.below N0
  have B1 := Below.then A0 G1.below
  clear hx G1 N0 A0
  by_cases hgt : 300 < r
  · go_wp2_with fail
    refine (LV.out w1).mono ?_
    rintro e w2 ⟨rfl, b2⟩
    go_wp2_with fail
    go_ret
    exact ⟨rfl, Below.then B1 b2⟩
  · have hn := hr hgt
    clear hr
    obtain ⟨c0, c1, c2, c3⟩ := boxF_cells N1
    by_cases hk10 : (10 : Int) < (x.ks.length : Int)
    · go_wp2_with fail
      refine (LV.out w1).mono ?_
      rintro e w2 ⟨rfl, b2⟩
      go_wp2_with fail
      go_ret
      exact ⟨rfl, Below.then B1 b2⟩
    · go_wp2_with fail
      refine (new_at 4096 w1 (by decide) (by decide)).mono ?_
      rintro e w2 ⟨rfl, T2, e2⟩
      have B2 : Below w1.heap.size w1 w2 := by rw [e2]; exact below_alloc _ _
      have C2 := Below.then B1 B2
      have N2 := below_heap B2 N1
      have hb1 := B1.size
      have hbx : w.heap.size ≠ w1.heap.size := by have := heap_lt N1; omega
      clear e2 B2 N1 c0 c1 c2 c3 hk10
      generalize w1.heap.size = b at *
      have P2 : PutAt w b (((xs.map Fv.f)).take 0) w2 := ⟨_, _, _, T2, rfl⟩
      clear T2
      go_wp2_with fail
      go_loopw [7] (fun v7 wr => ∃ k : Nat, v7 = .int .i64 (k : Int) ∧ k ≤ xs.length ∧ PutAt w b ((xs.map Fv.f).take k) wr ∧ wr.heap[w.heap.size]? = some (.cells #[str x.at_, str x.by_, str x.pred, .slice x.a x.ks.length x.cap] 34) ∧ Below w.heap.size w wr) (fun v7 _ => xs.length - (intOf v7).toNat)
      case atStart => exact ⟨0, rfl, Nat.zero_le _, P2, N2, C2⟩
      case round =>
        clear P2 C2 N2
        obtain ⟨k, rfl, hk, P3, N3, C3⟩ := hrel
        by_cases hlt : k < xs.length
        · have q2 : (k : Int) < (xs.length : Int) := by omega
          obtain ⟨P, O, rfl⟩ := hl.addr (Nat.lt_of_le_of_lt (Nat.zero_le _) hlt)
          obtain ⟨a1, a2, a3, a4⟩ := (hl.below C3 (Nat.le_refl _)).get k hlt
          have hA := ((HX.out _ (List.getElem_mem hlt)).1).below C3 (Nat.le_refl _)
          have hst : Hid ((xs.map Fv.f).take (k + 1) = (xs.map Fv.f).take k ++ [(xs[k]'hlt).f]) := by
            show _ = _
            rw [List.take_succ_eq_append_getElem (by simpa using hlt), List.getElem_map]
          generalize (xs[k]'hlt) = p at *
          go_wp2_with fail
          refine (PM.out wr b _ p P3 hA).mono ?_
          rintro e w4 ⟨v4, rfl, P4, D4⟩
          have C4 : Below w.heap.size w w4 := C3.trans (D4.but.lower hb1 C3.size)
          have N4 := D4.but.heap hbx N3
          clear P3 D4 C3 N3 a1 a2 a3 a4 hA
          go_wp2_with fail
          exact ⟨⟨k + 1, by simp, by omega, by rw [hst.out]; exact P4, N4, C4⟩, by simp [intOf]; omega⟩
        · have q2 : ¬ (k : Int) < (xs.length : Int) := by omega
          obtain rfl : k = xs.length := by omega
          rw [List.take_of_length_le (by simp)] at P3
          obtain ⟨a1, c1, ps, T3, hps⟩ := P3.tab
          clear P3 PM hl HX hps
          go_wp2_with fail
          refine (all_tab wr T3).mono ?_
          rintro e w4 ⟨⟨bt, bi, rfl, I4⟩, B4⟩
          go_wp2_with fail
          refine (gather_all wr w4 T3 I4).mono ?_
          rintro e w5 ⟨⟨a5, c5, zs, rfl, O5, hzs, hzl⟩, B5⟩
          have B45 := Below.then B4 B5
          have T5 := T3.below B45
          have N5 := below_heap B45 N3
          have C5 := Below.then C3 B45
          have hzfew : zs.length ≤ 4096 := by have := T5.room; have := T5.high; omega
          have HZ := hideP hzs
          clear I4 B4 B5 B45 T3 N3 C3 hzs hzl hn
          go_wp2_with fail
          go_loopw [9, 10, 11] (fun v9 v10 v11 wr => ∃ (k : Nat) (ws rs : List Fv) (u9 u10 : Option Addr) (d9 d10 : Nat), v11 = .int .i64 (k : Int) ∧ k ≤ zs.length ∧ v9 = .slice u9 (List.length ws) d9 ∧ v10 = .slice u10 (List.length rs) d10 ∧ wr.ownsRow w5.heap.size 34 fK.k (.slice u9 (List.length ws) d9) ws.length (ws.flatMap fK.enc) ∧ wr.ownsRow w5.heap.size 34 fK.k (.slice u10 (List.length rs) d10) rs.length (rs.flatMap fK.enc) ∧ Hid (ws = (zs.take k).filter fun z => isP x z.f) ∧ Hid (rs = (zs.take k).filter fun z => !isP x z.f) ∧ ((Value.slice u10 (List.length rs) d10).ownBlock = none ∨ (Value.slice u10 (List.length rs) d10).ownBlock ≠ (Value.slice u9 (List.length ws) d9).ownBlock) ∧ Below w5.heap.size w5 wr) (fun _ _ v11 _ => zs.length - (intOf v11).toNat)
          case atStart => exact ⟨0, [], [], none, none, 0, 0, rfl, Nat.zero_le _, rfl, rfl, World.ownsRow_nil _ _ _ _, World.ownsRow_nil _ _ _ _, rfl, rfl, .inl rfl, Below.refl _ _⟩
          case round =>
            obtain ⟨k, ws, rs, u9, u10, d9, d10, rfl, hk, rfl, rfl, own9, own10, hws, hrs, hap, B6⟩ := hrel
            by_cases hlt : k < zs.length
            · have q3 : (k : Int) < (zs.length : Int) := by omega
              have hwl : ws.length ≤ 900000 := by rw [hws.out]; exact Nat.le_trans (List.length_filter_le _ _) (by rw [List.length_take]; omega)
              have hrl : rs.length ≤ 900000 := by rw [hrs.out]; exact Nat.le_trans (List.length_filter_le _ _) (by rw [List.length_take]; omega)
              have hOL := (O5.below B6).lies (by omega)
              obtain ⟨P, O, rfl⟩ := hOL.addr (Nat.lt_of_le_of_lt (Nat.zero_le _) hlt)
              obtain ⟨a1, a2, a3, a4⟩ := hOL.get k hlt
              obtain ⟨c0, c1, c2, c3⟩ := boxF_cells (below_heap B6 N5)
              have hwf := hideP (filt_snoc (p := isP x) (zs := zs) hlt)
              have hrf := hideP (filt_snoc (p := fun f => !isP x f) (zs := zs) hlt)
              generalize (zs[k]'hlt) = z at *
              have HWL := hideP hwl
              have HRL := hideP hrl
              clear hOL hwl hrl
              obtain ⟨z1, z2, z3, za, zc, zk⟩ := z
              simp only at a1 a2 a3 a4
              by_cases e1 : z3 = x.pred
              · subst e1
                by_cases e2 : z1 = x.at_
                · subst e2
                  have hip : isP x (Fv.f ⟨x.at_, z2, x.pred, za, zc, zk⟩) = true := by unfold isP; rw [show (Fv.f ⟨x.at_, z2, x.pred, za, zc, zk⟩).pred = x.pred from rfl, show (Fv.f ⟨x.at_, z2, x.pred, za, zc, zk⟩).at_ = x.at_ from rfl]; simp
                  go_wp2_with fail
                  go_quiet (fail)
                  have DB : Below wr.heap.size wr (wr.drewN nq) := below_drewN (Below.refl _ _) nq
                  have own9' := ownsRow_keep own9 (Safe.below DB : Safe 34 _ _)
                  have own10' := ownsRow_keep own10 (Safe.below DB : Safe 34 _ _)
                  have m1 := (DB.cell (p := ⟨P, O + k * 4, none⟩) (cell_block a1)).trans a1
                  have m2 := (DB.cell (p := ⟨P, O + k * 4 + 1, none⟩) (cell_block a2)).trans a2
                  have m3 := (DB.cell (p := ⟨P, O + k * 4 + 2, none⟩) (cell_block a3)).trans a3
                  have m4 := (DB.cell (p := ⟨P, O + k * 4 + 3, none⟩) (cell_block a4)).trans a4
                  have B7 := B6.trans (DB.mono B6.size)
                  have S7 := B7.size
                  clear own9 own10 a1 a2 a3 a4 c0 c1 c2 c3 B6 DB
                  generalize wr.drewN nq = w7 at *
                  have A8 := below_alloc w7 (.cells #[str x.at_, str z2, str x.pred, .slice za zk.length zc] 34)
                  have R8 : Row fK (w7.alloc (.cells #[str x.at_, str z2, str x.pred, .slice za zk.length zc] 34)) (some ⟨w7.heap.size, 0, none⟩) 1 [(⟨x.at_, z2, x.pred, za, zc, zk⟩ : Fv)] := row_new fK w7 _ _ (⟨x.at_, z2, x.pred, za, zc, zk⟩ : Fv) rfl
                  have o9 := ownsRow_keep own9' (Safe.below A8 : Safe 34 _ _)
                  have o10 := ownsRow_keep own10' (Safe.below A8 : Safe 34 _ _)
                  have B8 := B7.trans (A8.mono B7.size)
                  have S8 := B8.size
                  have l9 : (w7.alloc (.cells #[str x.at_, str z2, str x.pred, .slice za zk.length zc] 34)).heap.size = w7.heap.size + 1 := by simp
                  clear own9' own10' B7
                  generalize hw8 : w7.alloc (.cells #[str x.at_, str z2, str x.pred, .slice za zk.length zc] 34) = w8 at *
                  go_wp2_with (first
                    | (at_builtin; refine wpList_append_one w8 rfl _ _ rfl w5.heap.size (.slice u9 (List.length ws) d9) ws (⟨x.at_, z2, x.pred, za, zc, zk⟩ : Fv) w7.heap.size rfl o9 rfl R8 S8 HWL.out ?_; intro g9 e9 w9 p9 q9 t9))
                  have o10' := owns_other o10 q9 hap
                  have hap' := apart_next o10 t9 hap
                  have B9 : Below w5.heap.size w5 w9 := B8.trans (own_below o9 q9 S8)
                  clear o9 o10 q9 t9 hap B8 R8 A8
                  go_wp2_with fail
                  refine ⟨⟨k + 1, ws ++ [(⟨x.at_, z2, x.pred, za, zc, zk⟩ : Fv)], rs, some ⟨g9, 0, none⟩, u10, e9, d10, by simp, by omega, by simp, rfl, p9, o10', ?_, ?_, hap', B9⟩, by simp [intOf]; omega⟩
                  · show _ = _
                    rw [hwf.out, hip, ← hws.out]; rfl
                  · show _ = _
                    rw [hrf.out, hip, ← hrs.out]; simp
                · have k2 : (z1 == x.at_) = false := by simp [e2]
                  have hip : isP x (Fv.f ⟨z1, z2, x.pred, za, zc, zk⟩) = false := by unfold isP; rw [show (Fv.f ⟨z1, z2, x.pred, za, zc, zk⟩).at_ = z1 from rfl, decide_eq_false e2]; simp
                  go_wp2_with fail
                  go_quiet (fail)
                  have DB : Below wr.heap.size wr (wr.drewN nq) := below_drewN (Below.refl _ _) nq
                  have own9' := ownsRow_keep own9 (Safe.below DB : Safe 34 _ _)
                  have own10' := ownsRow_keep own10 (Safe.below DB : Safe 34 _ _)
                  have m1 := (DB.cell (p := ⟨P, O + k * 4, none⟩) (cell_block a1)).trans a1
                  have m2 := (DB.cell (p := ⟨P, O + k * 4 + 1, none⟩) (cell_block a2)).trans a2
                  have m3 := (DB.cell (p := ⟨P, O + k * 4 + 2, none⟩) (cell_block a3)).trans a3
                  have m4 := (DB.cell (p := ⟨P, O + k * 4 + 3, none⟩) (cell_block a4)).trans a4
                  have B7 := B6.trans (DB.mono B6.size)
                  have S7 := B7.size
                  clear own9 own10 a1 a2 a3 a4 c0 c1 c2 c3 B6 DB
                  generalize wr.drewN nq = w7 at *
                  have A8 := below_alloc w7 (.cells #[str z1, str z2, str x.pred, .slice za zk.length zc] 34)
                  have R8 : Row fK (w7.alloc (.cells #[str z1, str z2, str x.pred, .slice za zk.length zc] 34)) (some ⟨w7.heap.size, 0, none⟩) 1 [(⟨z1, z2, x.pred, za, zc, zk⟩ : Fv)] := row_new fK w7 _ _ (⟨z1, z2, x.pred, za, zc, zk⟩ : Fv) rfl
                  have o9 := ownsRow_keep own9' (Safe.below A8 : Safe 34 _ _)
                  have o10 := ownsRow_keep own10' (Safe.below A8 : Safe 34 _ _)
                  have B8 := B7.trans (A8.mono B7.size)
                  have S8 := B8.size
                  have l9 : (w7.alloc (.cells #[str z1, str z2, str x.pred, .slice za zk.length zc] 34)).heap.size = w7.heap.size + 1 := by simp
                  clear own9' own10' B7
                  generalize hw8 : w7.alloc (.cells #[str z1, str z2, str x.pred, .slice za zk.length zc] 34) = w8 at *
                  go_wp2_with (first
                    | (at_builtin; refine wpList_append_one w8 rfl _ _ rfl w5.heap.size (.slice u10 (List.length rs) d10) rs (⟨z1, z2, x.pred, za, zc, zk⟩ : Fv) w7.heap.size rfl o10 rfl R8 S8 HRL.out ?_; intro g9 e9 w9 p9 q9 t9))
                  have hap2 := apart_sym hap
                  have o9' := owns_other o9 q9 hap2
                  have hap' := apart_sym (u := .slice u9 (List.length ws) d9) (v := .slice (some ⟨g9, 0, none⟩) (rs ++ [(⟨z1, z2, x.pred, za, zc, zk⟩ : Fv)]).length e9) (apart_next o9 t9 hap2)
                  have B9 : Below w5.heap.size w5 w9 := B8.trans (own_below o10 q9 S8)
                  clear o9 o10 q9 t9 hap hap2 B8 R8 A8
                  go_wp2_with fail
                  refine ⟨⟨k + 1, ws, rs ++ [(⟨z1, z2, x.pred, za, zc, zk⟩ : Fv)], u9, some ⟨g9, 0, none⟩, d9, e9, by simp, by omega, rfl, by simp, o9', p9, ?_, ?_, hap', B9⟩, by simp [intOf]; omega⟩
                  · show _ = _
                    rw [hwf.out, hip, ← hws.out]; simp
                  · show _ = _
                    rw [hrf.out, hip, ← hrs.out]; rfl
              · have k1 : (z3 == x.pred) = false := by simp [e1]
                have hip : isP x (Fv.f ⟨z1, z2, z3, za, zc, zk⟩) = false := by unfold isP; rw [show (Fv.f ⟨z1, z2, z3, za, zc, zk⟩).pred = z3 from rfl, decide_eq_false e1]; rfl
                go_wp2_with fail
                go_quiet (fail)
                have DB : Below wr.heap.size wr (wr.drewN nq) := below_drewN (Below.refl _ _) nq
                have own9' := ownsRow_keep own9 (Safe.below DB : Safe 34 _ _)
                have own10' := ownsRow_keep own10 (Safe.below DB : Safe 34 _ _)
                have m1 := (DB.cell (p := ⟨P, O + k * 4, none⟩) (cell_block a1)).trans a1
                have m2 := (DB.cell (p := ⟨P, O + k * 4 + 1, none⟩) (cell_block a2)).trans a2
                have m3 := (DB.cell (p := ⟨P, O + k * 4 + 2, none⟩) (cell_block a3)).trans a3
                have m4 := (DB.cell (p := ⟨P, O + k * 4 + 3, none⟩) (cell_block a4)).trans a4
                have B7 := B6.trans (DB.mono B6.size)
                have S7 := B7.size
                clear own9 own10 a1 a2 a3 a4 c0 c1 c2 c3 B6 DB
                generalize wr.drewN nq = w7 at *
                have A8 := below_alloc w7 (.cells #[str z1, str z2, str z3, .slice za zk.length zc] 34)
                have R8 : Row fK (w7.alloc (.cells #[str z1, str z2, str z3, .slice za zk.length zc] 34)) (some ⟨w7.heap.size, 0, none⟩) 1 [(⟨z1, z2, z3, za, zc, zk⟩ : Fv)] := row_new fK w7 _ _ (⟨z1, z2, z3, za, zc, zk⟩ : Fv) rfl
                have o9 := ownsRow_keep own9' (Safe.below A8 : Safe 34 _ _)
                have o10 := ownsRow_keep own10' (Safe.below A8 : Safe 34 _ _)
                have B8 := B7.trans (A8.mono B7.size)
                have S8 := B8.size
                have l9 : (w7.alloc (.cells #[str z1, str z2, str z3, .slice za zk.length zc] 34)).heap.size = w7.heap.size + 1 := by simp
                clear own9' own10' B7
                generalize hw8 : w7.alloc (.cells #[str z1, str z2, str z3, .slice za zk.length zc] 34) = w8 at *
                go_wp2_with (first
                  | (at_builtin; refine wpList_append_one w8 rfl _ _ rfl w5.heap.size (.slice u10 (List.length rs) d10) rs (⟨z1, z2, z3, za, zc, zk⟩ : Fv) w7.heap.size rfl o10 rfl R8 S8 HRL.out ?_; intro g9 e9 w9 p9 q9 t9))
                have hap2 := apart_sym hap
                have o9' := owns_other o9 q9 hap2
                have hap' := apart_sym (u := .slice u9 (List.length ws) d9) (v := .slice (some ⟨g9, 0, none⟩) (rs ++ [(⟨z1, z2, z3, za, zc, zk⟩ : Fv)]).length e9) (apart_next o9 t9 hap2)
                have B9 : Below w5.heap.size w5 w9 := B8.trans (own_below o10 q9 S8)
                clear o9 o10 q9 t9 hap hap2 B8 R8 A8
                go_wp2_with fail
                refine ⟨⟨k + 1, ws, rs ++ [(⟨z1, z2, z3, za, zc, zk⟩ : Fv)], u9, some ⟨g9, 0, none⟩, d9, e9, by simp, by omega, rfl, by simp, o9', p9, ?_, ?_, hap', B9⟩, by simp [intOf]; omega⟩
                · show _ = _
                  rw [hwf.out, hip, ← hws.out]; simp
                · show _ = _
                  rw [hrf.out, hip, ← hrs.out]; rfl
            · have q3 : ¬ (k : Int) < (zs.length : Int) := by omega
              obtain rfl : k = zs.length := by omega
              rw [List.take_length] at hws hrs
              have hwm : Hid (ws.map Fv.f = (ps.map Pn.f).filter (isP x)) := by
                show _ = _
                rw [hws.out, filt_map, HZ.out]
              have hrm : Hid (rs.map Fv.f = (ps.map Pn.f).filter fun f => !isP x f) := by
                show _ = _
                rw [hrs.out, filt_map (p := fun f => !isP x f), HZ.out]
              have hwl : ws.length ≤ 4096 := by rw [hws.out]; exact Nat.le_trans (List.length_filter_le _ _) hzfew
              have hrl : rs.length ≤ 4096 := by rw [hrs.out]; exact Nat.le_trans (List.length_filter_le _ _) hzfew
              have O6 := O5.below B6
              have OW := own_list own9 hwl (fun z hz => O6.args z (by rw [hws.out] at hz; exact (List.mem_filter.1 hz).1))
              have OR := own_list own10 hrl (fun z hz => O6.args z (by rw [hrs.out] at hz; exact (List.mem_filter.1 hz).1))
              have T6 := T5.below B6
              have N6 := below_heap B6 N5
              have C6 := Below.then C5 B6
              have HSS := hideP T6.sorted
              obtain ⟨c0, c1, c2, c3⟩ := boxF_cells N6
              clear own9 own10 hap B6 O5 O6 T5 N5 C5 hws hrs hzfew
              go_wp2_with fail
              refine (of_at x.at_ [] x.pred wr T6.tabV T6.lst T6.wide).mono ?_
              rintro e w7 ⟨⟨bt7, bi7, rfl, I7⟩, B7⟩
              go_wp2_with fail
              refine (gather_at bt7 bi7 _ _ ps _ (-1) w7 I7 (by have := T6.room; have := T6.high; omega)).mono ?_
              rintro e w8 ⟨⟨a8, c8, ys, rfl, O8, hys⟩, B8⟩
              rw [cut15_all (by omega), of_told] at hys
              have HYS := hideP hys
              have hyl : Hid (ys.length ≤ 4096) := by
                show _ ≤ _
                have h1 := congrArg List.length hys
                rw [List.length_map] at h1
                have h2 : (Tb.of x.at_ [] x.pred (ps.map Pn.f)).length ≤ (ps.map Pn.f).length := List.length_filter_le _ _
                rw [List.length_map] at h2
                have := T6.room; have := T6.high; omega
              have B78 := Below.then B7 B8
              have T8 := T6.below B78
              have N8 := below_heap B78 N6
              have C8 := Below.then C6 B78
              have OW8 := OW.below B78
              have OR8 := OR.below B78
              clear I7 B7 B8 B78 T6 N6 C6 OW OR hys c0 c1 c2 c3
              obtain ⟨c0, c1, c2, c3⟩ := boxF_cells N8
              by_cases hA : x.at_ = []
              · have kA : (x.at_ == []) = true := by simp [hA]
                clear N8 HYS hyl O8
                have TK : ∃ a' c' qs, TabAt w8 b 4096 a' c' qs ∧ Hid (qs.map Pn.f = Tb.takes (ps.map Pn.f) ((ws.map Fv.f).take 0)) := ⟨_, _, ps, T8, rfl⟩
                clear T8
                go_wp2_with fail
                go_loopw [13] (fun v13 wr => ∃ k : Nat, v13 = .int .i64 (k : Int) ∧ k ≤ ws.length ∧ (∃ a' c' qs, TabAt wr b 4096 a' c' qs ∧ Hid (qs.map Pn.f = Tb.takes (ps.map Pn.f) ((ws.map Fv.f).take k))) ∧ Own15 0 wr u9 d9 ws ∧ Own15 0 wr u10 d10 rs ∧ Below w.heap.size w wr) (fun v13 _ => ws.length - (intOf v13).toNat)
                case atStart => exact ⟨0, rfl, Nat.zero_le _, TK, OW8, OR8, C8⟩
                case round =>
                  clear TK OW8 OR8 C8
                  obtain ⟨k, rfl, hk, ⟨a2, c2, qs, TQ, hqs⟩, OWq, ORq, Cq⟩ := hrel
                  by_cases hlt : k < ws.length
                  · have q4 : (k : Int) < (ws.length : Int) := by omega
                    have hOL := OWq.lies (by omega)
                    obtain ⟨P, O, rfl⟩ := hOL.addr (Nat.lt_of_le_of_lt (Nat.zero_le _) hlt)
                    obtain ⟨m1, m2, m3, m4⟩ := hOL.get k hlt
                    have hA := OWq.at_ _ (List.getElem_mem hlt)
                    have hT := hideP (take_two HSS.out hwm.out hlt)
                    have hLG := fun (W : World) (h : Lies W (some ⟨P, O, none⟩) d9 ws) => h.get k hlt
                    have HLG := hideP hLG
                    have HAG : Hid (∀ W, Own15 0 W (some ⟨P, O, none⟩) d9 ws → Fv.At W (ws[k]'hlt)) := fun W h => h.at_ _ (List.getElem_mem hlt)
                    clear hLG hOL
                    generalize (ws[k]'hlt) = z at *
                    go_wp2_with fail
                    refine (take_at z wr TQ hA).mono ?_
                    rintro e w3 ⟨rfl, ⟨a3, c3, us, T3, hus⟩, D3⟩
                    rw [if_pos (show hasF (qs.map Pn.f) z.f = true by rw [hqs.out]; exact hT.out.1)]
                    have OW3 := OWq.safe (D3.safe (by decide)) (D3.safe (by decide))
                    have OR3 := ORq.safe (D3.safe (by decide)) (D3.safe (by decide))
                    have C3 : Below w.heap.size w w3 := Cq.trans (D3.but.lower hb1 Cq.size)
                    have hus' : Hid (us.map Pn.f = Tb.take (Tb.takes (ps.map Pn.f) ((ws.map Fv.f).take k)) z.f) := by
                      show _ = _
                      rw [hus, hqs.out]
                    clear m1 m2 m3 m4 TQ OWq ORq Cq D3 hA hus hqs
                    obtain ⟨m1, m2, m3, m4⟩ := HLG.out w3 (OW3.lies (by omega))
                    have hA3 := HAG.out w3 OW3
                    go_wp2_with fail
                    refine (take_at z w3 T3 hA3).mono ?_
                    rintro e w4 ⟨rfl, ⟨a4, c4, vs, T4, hvs⟩, D4⟩
                    rw [if_neg (show ¬ hasF (us.map Pn.f) z.f = true by rw [hus'.out]; exact hT.out.2.1)]
                    have OW4 := OW3.safe (D4.safe (by decide)) (D4.safe (by decide))
                    have OR4 := OR3.safe (D4.safe (by decide)) (D4.safe (by decide))
                    have C4 : Below w.heap.size w w4 := C3.trans (D4.but.lower hb1 C3.size)
                    have hvs' : Hid (vs.map Pn.f = Tb.takes (ps.map Pn.f) ((ws.map Fv.f).take (k + 1))) := by
                      show _ = _
                      rw [hvs, hus'.out, hT.out.2.2]
                    clear m1 m2 m3 m4 T3 OW3 OR3 C3 D4 hA3 hvs hus' HLG HAG
                    go_wp2_with fail
                    exact ⟨⟨k + 1, by simp, by omega, ⟨a4, c4, vs, T4, hvs'⟩, OW4, OR4, C4⟩, by simp [intOf]; omega⟩
                  · have q4 : ¬ (k : Int) < (ws.length : Int) := by omega
                    obtain rfl : k = ws.length := by omega
                    have hfin : Hid (qs.map Pn.f = rs.map Fv.f) := by
                      show _ = _
                      rw [hqs.out, List.take_of_length_le (by simp), hwm.out, Tb.takes_filter HSS.out, hrm.out]
                    clear hqs OWq
                    go_wp2_with fail
                    refine (all_tab wr TQ).mono ?_
                    rintro e w3 ⟨⟨bt3, bi3, rfl, I3⟩, B3⟩
                    go_wp2_with fail
                    refine (gather_all wr w3 TQ I3).mono ?_
                    rintro e w4 ⟨⟨a4, c4, vs, rfl, O4, hvs, hvl⟩, B4⟩
                    have HVS := hideP hvs
                    have HVL : Hid (vs.length ≤ 4096) := by
                      show _ ≤ _
                      rw [hvl]; have := TQ.room; have := TQ.high; omega
                    have B34 := Below.then B3 B4
                    have OR4 := ORq.below B34
                    have C4 := Below.then Cq B34
                    clear hvs hvl I3 B3 B4 B34 ORq Cq TQ
                    go_wp2_with fail
                    refine (like_at a4 u10 c4 d10 vs rs w4 (O4.lies (by have := HVL.out; omega)) (OR4.lies (by omega)) O4.at_ OR4.at_).mono ?_
                    rintro e w5' ⟨rfl, G5⟩
                    rw [(likeB_iff _ _).2 (by rw [HVS.out, hfin.out])]
                    have C5 := Below.then C4 G5.below
                    go_wp2_with fail
                    refine (LV.out w5').mono ?_
                    rintro e w6 ⟨rfl, b6⟩
                    go_wp2_with fail
                    go_ret
                    exact ⟨rfl, Below.then C5 b6⟩
              · have kA : (x.at_ == []) = false := by simp [hA]
                by_cases hP : x.pred = []
                · have kP : (x.pred == []) = true := by simp [hP]
                  clear N8 HYS hyl O8
                  have TK : ∃ a' c' qs, TabAt w8 b 4096 a' c' qs ∧ Hid (qs.map Pn.f = Tb.takes (ps.map Pn.f) ((ws.map Fv.f).take 0)) := ⟨_, _, ps, T8, rfl⟩
                  clear T8
                  go_wp2_with fail
                  go_loopw [13] (fun v13 wr => ∃ k : Nat, v13 = .int .i64 (k : Int) ∧ k ≤ ws.length ∧ (∃ a' c' qs, TabAt wr b 4096 a' c' qs ∧ Hid (qs.map Pn.f = Tb.takes (ps.map Pn.f) ((ws.map Fv.f).take k))) ∧ Own15 0 wr u9 d9 ws ∧ Own15 0 wr u10 d10 rs ∧ Below w.heap.size w wr) (fun v13 _ => ws.length - (intOf v13).toNat)
                  case atStart => exact ⟨0, rfl, Nat.zero_le _, TK, OW8, OR8, C8⟩
                  case round =>
                    clear TK OW8 OR8 C8
                    obtain ⟨k, rfl, hk, ⟨a2, c2, qs, TQ, hqs⟩, OWq, ORq, Cq⟩ := hrel
                    by_cases hlt : k < ws.length
                    · have q4 : (k : Int) < (ws.length : Int) := by omega
                      have hOL := OWq.lies (by omega)
                      obtain ⟨P, O, rfl⟩ := hOL.addr (Nat.lt_of_le_of_lt (Nat.zero_le _) hlt)
                      obtain ⟨m1, m2, m3, m4⟩ := hOL.get k hlt
                      have hA := OWq.at_ _ (List.getElem_mem hlt)
                      have hT := hideP (take_two HSS.out hwm.out hlt)
                      have hLG := fun (W : World) (h : Lies W (some ⟨P, O, none⟩) d9 ws) => h.get k hlt
                      have HLG := hideP hLG
                      have HAG : Hid (∀ W, Own15 0 W (some ⟨P, O, none⟩) d9 ws → Fv.At W (ws[k]'hlt)) := fun W h => h.at_ _ (List.getElem_mem hlt)
                      clear hLG hOL
                      generalize (ws[k]'hlt) = z at *
                      go_wp2_with fail
                      refine (take_at z wr TQ hA).mono ?_
                      rintro e w3 ⟨rfl, ⟨a3, c3, us, T3, hus⟩, D3⟩
                      rw [if_pos (show hasF (qs.map Pn.f) z.f = true by rw [hqs.out]; exact hT.out.1)]
                      have OW3 := OWq.safe (D3.safe (by decide)) (D3.safe (by decide))
                      have OR3 := ORq.safe (D3.safe (by decide)) (D3.safe (by decide))
                      have C3 : Below w.heap.size w w3 := Cq.trans (D3.but.lower hb1 Cq.size)
                      have hus' : Hid (us.map Pn.f = Tb.take (Tb.takes (ps.map Pn.f) ((ws.map Fv.f).take k)) z.f) := by
                        show _ = _
                        rw [hus, hqs.out]
                      clear m1 m2 m3 m4 TQ OWq ORq Cq D3 hA hus hqs
                      obtain ⟨m1, m2, m3, m4⟩ := HLG.out w3 (OW3.lies (by omega))
                      have hA3 := HAG.out w3 OW3
                      go_wp2_with fail
                      refine (take_at z w3 T3 hA3).mono ?_
                      rintro e w4 ⟨rfl, ⟨a4, c4, vs, T4, hvs⟩, D4⟩
                      rw [if_neg (show ¬ hasF (us.map Pn.f) z.f = true by rw [hus'.out]; exact hT.out.2.1)]
                      have OW4 := OW3.safe (D4.safe (by decide)) (D4.safe (by decide))
                      have OR4 := OR3.safe (D4.safe (by decide)) (D4.safe (by decide))
                      have C4 : Below w.heap.size w w4 := C3.trans (D4.but.lower hb1 C3.size)
                      have hvs' : Hid (vs.map Pn.f = Tb.takes (ps.map Pn.f) ((ws.map Fv.f).take (k + 1))) := by
                        show _ = _
                        rw [hvs, hus'.out, hT.out.2.2]
                      clear m1 m2 m3 m4 T3 OW3 OR3 C3 D4 hA3 hvs hus' HLG HAG
                      go_wp2_with fail
                      exact ⟨⟨k + 1, by simp, by omega, ⟨a4, c4, vs, T4, hvs'⟩, OW4, OR4, C4⟩, by simp [intOf]; omega⟩
                    · have q4 : ¬ (k : Int) < (ws.length : Int) := by omega
                      obtain rfl : k = ws.length := by omega
                      have hfin : Hid (qs.map Pn.f = rs.map Fv.f) := by
                        show _ = _
                        rw [hqs.out, List.take_of_length_le (by simp), hwm.out, Tb.takes_filter HSS.out, hrm.out]
                      clear hqs OWq
                      go_wp2_with fail
                      refine (all_tab wr TQ).mono ?_
                      rintro e w3 ⟨⟨bt3, bi3, rfl, I3⟩, B3⟩
                      go_wp2_with fail
                      refine (gather_all wr w3 TQ I3).mono ?_
                      rintro e w4 ⟨⟨a4, c4, vs, rfl, O4, hvs, hvl⟩, B4⟩
                      have HVS := hideP hvs
                      have HVL : Hid (vs.length ≤ 4096) := by
                        show _ ≤ _
                        rw [hvl]; have := TQ.room; have := TQ.high; omega
                      have B34 := Below.then B3 B4
                      have OR4 := ORq.below B34
                      have C4 := Below.then Cq B34
                      clear hvs hvl I3 B3 B4 B34 ORq Cq TQ
                      go_wp2_with fail
                      refine (like_at a4 u10 c4 d10 vs rs w4 (O4.lies (by have := HVL.out; omega)) (OR4.lies (by omega)) O4.at_ OR4.at_).mono ?_
                      rintro e w5' ⟨rfl, G5⟩
                      rw [(likeB_iff _ _).2 (by rw [HVS.out, hfin.out])]
                      have C5 := Below.then C4 G5.below
                      go_wp2_with fail
                      refine (LV.out w5').mono ?_
                      rintro e w6 ⟨rfl, b6⟩
                      go_wp2_with fail
                      go_ret
                      exact ⟨rfl, Below.then C5 b6⟩
                · have kP : (x.pred == []) = false := by simp [hP]
                  go_wp2_with fail
                  refine (like_at a8 u9 c8 d9 ys ws w8 (O8.lies (by have := hyl.out; omega)) (OW8.lies (by omega)) O8.at_ OW8.at_).mono ?_
                  rintro e w9 ⟨rfl, G9⟩
                  rw [(likeB_iff _ _).2 (by rw [HYS.out, hwm.out, of_isP hA hP])]
                  have T9 := T8.below G9.below
                  have N9 := below_heap G9.below N8
                  have C9 := Below.then C8 G9.below
                  have OW9 := OW8.below G9.below
                  have OR9 := OR8.below G9.below
                  clear T8 N8 C8 OW8 OR8 G9
                  clear c0 c1 c2 c3 N9 HYS hyl O8
                  have TK : ∃ a' c' qs, TabAt w9 b 4096 a' c' qs ∧ Hid (qs.map Pn.f = Tb.takes (ps.map Pn.f) ((ws.map Fv.f).take 0)) := ⟨_, _, ps, T9, rfl⟩
                  clear T9
                  go_wp2_with fail
                  go_loopw [13] (fun v13 wr => ∃ k : Nat, v13 = .int .i64 (k : Int) ∧ k ≤ ws.length ∧ (∃ a' c' qs, TabAt wr b 4096 a' c' qs ∧ Hid (qs.map Pn.f = Tb.takes (ps.map Pn.f) ((ws.map Fv.f).take k))) ∧ Own15 0 wr u9 d9 ws ∧ Own15 0 wr u10 d10 rs ∧ Below w.heap.size w wr) (fun v13 _ => ws.length - (intOf v13).toNat)
                  case atStart => exact ⟨0, rfl, Nat.zero_le _, TK, OW9, OR9, C9⟩
                  case round =>
                    clear TK OW9 OR9 C9
                    obtain ⟨k, rfl, hk, ⟨a2, c2, qs, TQ, hqs⟩, OWq, ORq, Cq⟩ := hrel
                    by_cases hlt : k < ws.length
                    · have q4 : (k : Int) < (ws.length : Int) := by omega
                      have hOL := OWq.lies (by omega)
                      obtain ⟨P, O, rfl⟩ := hOL.addr (Nat.lt_of_le_of_lt (Nat.zero_le _) hlt)
                      obtain ⟨m1, m2, m3, m4⟩ := hOL.get k hlt
                      have hA := OWq.at_ _ (List.getElem_mem hlt)
                      have hT := hideP (take_two HSS.out hwm.out hlt)
                      have hLG := fun (W : World) (h : Lies W (some ⟨P, O, none⟩) d9 ws) => h.get k hlt
                      have HLG := hideP hLG
                      have HAG : Hid (∀ W, Own15 0 W (some ⟨P, O, none⟩) d9 ws → Fv.At W (ws[k]'hlt)) := fun W h => h.at_ _ (List.getElem_mem hlt)
                      clear hLG hOL
                      generalize (ws[k]'hlt) = z at *
                      go_wp2_with fail
                      refine (take_at z wr TQ hA).mono ?_
                      rintro e w3 ⟨rfl, ⟨a3, c3, us, T3, hus⟩, D3⟩
                      rw [if_pos (show hasF (qs.map Pn.f) z.f = true by rw [hqs.out]; exact hT.out.1)]
                      have OW3 := OWq.safe (D3.safe (by decide)) (D3.safe (by decide))
                      have OR3 := ORq.safe (D3.safe (by decide)) (D3.safe (by decide))
                      have C3 : Below w.heap.size w w3 := Cq.trans (D3.but.lower hb1 Cq.size)
                      have hus' : Hid (us.map Pn.f = Tb.take (Tb.takes (ps.map Pn.f) ((ws.map Fv.f).take k)) z.f) := by
                        show _ = _
                        rw [hus, hqs.out]
                      clear m1 m2 m3 m4 TQ OWq ORq Cq D3 hA hus hqs
                      obtain ⟨m1, m2, m3, m4⟩ := HLG.out w3 (OW3.lies (by omega))
                      have hA3 := HAG.out w3 OW3
                      go_wp2_with fail
                      refine (take_at z w3 T3 hA3).mono ?_
                      rintro e w4 ⟨rfl, ⟨a4, c4, vs, T4, hvs⟩, D4⟩
                      rw [if_neg (show ¬ hasF (us.map Pn.f) z.f = true by rw [hus'.out]; exact hT.out.2.1)]
                      have OW4 := OW3.safe (D4.safe (by decide)) (D4.safe (by decide))
                      have OR4 := OR3.safe (D4.safe (by decide)) (D4.safe (by decide))
                      have C4 : Below w.heap.size w w4 := C3.trans (D4.but.lower hb1 C3.size)
                      have hvs' : Hid (vs.map Pn.f = Tb.takes (ps.map Pn.f) ((ws.map Fv.f).take (k + 1))) := by
                        show _ = _
                        rw [hvs, hus'.out, hT.out.2.2]
                      clear m1 m2 m3 m4 T3 OW3 OR3 C3 D4 hA3 hvs hus' HLG HAG
                      go_wp2_with fail
                      exact ⟨⟨k + 1, by simp, by omega, ⟨a4, c4, vs, T4, hvs'⟩, OW4, OR4, C4⟩, by simp [intOf]; omega⟩
                    · have q4 : ¬ (k : Int) < (ws.length : Int) := by omega
                      obtain rfl : k = ws.length := by omega
                      have hfin : Hid (qs.map Pn.f = rs.map Fv.f) := by
                        show _ = _
                        rw [hqs.out, List.take_of_length_le (by simp), hwm.out, Tb.takes_filter HSS.out, hrm.out]
                      clear hqs OWq
                      go_wp2_with fail
                      refine (all_tab wr TQ).mono ?_
                      rintro e w3 ⟨⟨bt3, bi3, rfl, I3⟩, B3⟩
                      go_wp2_with fail
                      refine (gather_all wr w3 TQ I3).mono ?_
                      rintro e w4 ⟨⟨a4, c4, vs, rfl, O4, hvs, hvl⟩, B4⟩
                      have HVS := hideP hvs
                      have HVL : Hid (vs.length ≤ 4096) := by
                        show _ ≤ _
                        rw [hvl]; have := TQ.room; have := TQ.high; omega
                      have B34 := Below.then B3 B4
                      have OR4 := ORq.below B34
                      have C4 := Below.then Cq B34
                      clear hvs hvl I3 B3 B4 B34 ORq Cq TQ
                      go_wp2_with fail
                      refine (like_at a4 u10 c4 d10 vs rs w4 (O4.lies (by have := HVL.out; omega)) (OR4.lies (by omega)) O4.at_ OR4.at_).mono ?_
                      rintro e w5' ⟨rfl, G5⟩
                      rw [(likeB_iff _ _).2 (by rw [HVS.out, hfin.out])]
                      have C5 := Below.then C4 G5.below
                      go_wp2_with fail
                      refine (LV.out w5').mono ?_
                      rintro e w6 ⟨rfl, b6⟩
                      go_wp2_with fail
                      go_ret
                      exact ⟨rfl, Below.then C5 b6⟩
end Go.Proofs.Ytomiefhfkdfgbaa
