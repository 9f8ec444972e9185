/-
  What a literal took: the mathematics of the choice; the closure that tells own variables.
-/
import Derived.Test.YtdehimbfcilhpaaGreatDoorQTk2
namespace Go.Proofs.YtdehimbfcilhpaaGreatDoor
open Go.RowKit Go.Sort

theorem Pre.zero_trans {α : Type} {c : α → α → Int} (h : Pre c) {x y z : α} (h1 : c x y = 0) (h2 : c y z = 0) : c x z = 0 := by
  have a1 := h.anti x y; have a2 := h.anti y z; have a3 := h.anti x z
  have b1 := h.trans x y z (by omega) (by omega)
  have b2 := h.trans z y x (by omega) (by omega)
  omega
theorem kept_sub {α : Type} (c : α → α → Int) (l : List α) : ∀ k, k ≤ l.length → List.Sublist (kept c l k) (l.take k)
  | 0, _ => by simp [kept]
  | k + 1, h => by
    rw [List.take_succ_eq_append_getElem (by omega)]
    by_cases h0 : k = 0
    · subst h0; rw [kept_one c l (by omega)]; simp
    · by_cases he : c l[k] (l[k - 1]'(by omega)) = 0
      · rw [kept_dup c l k (by omega) (by omega) he]
        exact (kept_sub c l k (by omega)).trans (List.sublist_append_left _ _)
      · rw [kept_new c l k (by omega) (by omega) he]
        exact (kept_sub c l k (by omega)).append (List.Sublist.refl _)
theorem kept_has {α : Type} {c : α → α → Int} (hc : Pre c) (l : List α) : ∀ k, k ≤ l.length → ∀ j (hj : j < l.length), j < k → ∃ y ∈ kept c l k, c l[j] y = 0
  | 0, _, j, _, h => by omega
  | k + 1, h, j, hj, hjk => by
    by_cases h0 : k = 0
    · subst h0
      have : j = 0 := by omega
      subst this
      rw [kept_one c l (by omega)]
      exact ⟨_, List.mem_singleton.2 rfl, hc.refl _⟩
    · by_cases he : c l[k] (l[k - 1]'(by omega)) = 0
      · rw [kept_dup c l k (by omega) (by omega) he]
        by_cases e : j = k
        · subst e
          obtain ⟨y, hy, hz⟩ := kept_has hc l j (by omega) (j - 1) (by omega) (by omega)
          exact ⟨y, hy, hc.zero_trans he hz⟩
        · exact kept_has hc l k (by omega) j hj (by omega)
      · rw [kept_new c l k (by omega) (by omega) he]
        by_cases e : j = k
        · subst e; exact ⟨_, List.mem_append_right _ (List.mem_singleton.2 rfl), hc.refl _⟩
        · obtain ⟨y, hy, hz⟩ := kept_has hc l k (by omega) j hj (by omega)
          exact ⟨y, List.mem_append_left _ hy, hz⟩
theorem cL_vals : ∀ x y : List Bd, cL cBd x y = cL cK (x.map (·.2)) (y.map (·.2))
  | [], [] => by simp [cL]
  | [], b :: y => by simp [cL]
  | a :: x, [] => by simp [cL]
  | a :: x, b :: y => by
    rw [List.map_cons, List.map_cons, cL, cL, cL_vals x y]; rfl
theorem same_binds : ∀ {x y : List Bd}, x.map (·.1) = y.map (·.1) → x.map (·.2) = y.map (·.2) → x = y
  | [], [], _, _ => rfl
  | [], _ :: _, h, _ => by simp at h
  | _ :: _, [], h, _ => by simp at h
  | (a, b) :: x, (a', b') :: y, h1, h2 => by
    simp only [List.map_cons, List.cons.injEq] at h1 h2
    obtain ⟨rfl, h1⟩ := h1
    obtain ⟨rfl, h2⟩ := h2
    rw [same_binds h1 h2]
theorem filter_by_var {q : Bd → Bool} (hq : ∀ b b' : Bd, b.1 = b'.1 → q b = q b') : ∀ {x y : List Bd}, x.map (·.1) = y.map (·.1) → (x.filter q).map (·.1) = (y.filter q).map (·.1)
  | [], [], _ => rfl
  | [], _ :: _, h => by simp at h
  | _ :: _, [], h => by simp at h
  | a :: x, b :: y, h => by
    simp only [List.map_cons, List.cons.injEq] at h
    rw [List.filter_cons, List.filter_cons, hq a b h.1]
    split
    · rw [List.map_cons, List.map_cons, h.1, filter_by_var hq h.2]
    · exact filter_by_var hq h.2
/-- WHAT WAS TAKEN of the first j facts -/
structure TsOk (home : Tm) (l : Lt) (e0 : Mt.Env) (m : List F) (q : Bd → Bool) (j : Nat) (ts : List Tk) : Prop where
  each : ∀ x ∈ ts, x.i < j ∧ ∃ f e1, m[x.i]? = some f ∧ Mt.lit home l f e0 = some e1 ∧ x.ks = e1.filter fun b => !q b
  nodup : (ts.map Tk.i).Nodup
  all : ∀ i, i < j → ∀ f e1, m[i]? = some f → Mt.lit home l f e0 = some e1 → ∃ x ∈ ts, x.i = i
theorem TsOk.start (home : Tm) (l : Lt) (e0 : Mt.Env) (m : List F) (q : Bd → Bool) : TsOk home l e0 m q 0 [] := ⟨fun _ h => by simp at h, by simp, fun _ h => by omega⟩
theorem TsOk.skip {home : Tm} {l : Lt} {e0 : Mt.Env} {m : List F} {q : Bd → Bool} {j : Nat} {ts : List Tk} (h : TsOk home l e0 m q j ts) (hn : ∀ f, m[j]? = some f → Mt.lit home l f e0 = none) : TsOk home l e0 m q (j + 1) ts :=
  ⟨fun x hx => ⟨by have := (h.each x hx).1; omega, (h.each x hx).2⟩, h.nodup, fun i hi f e1 hf he => by
    by_cases e : i = j
    · subst e; rw [hn f hf] at he; cases he
    · exact h.all i (by omega) f e1 hf he⟩
theorem TsOk.put {home : Tm} {l : Lt} {e0 : Mt.Env} {m : List F} {q : Bd → Bool} {j : Nat} {ts : List Tk} {x : Tk} {f : F} {e1 : Mt.Env} (h : TsOk home l e0 m q j ts) (hx : x.i = j) (hf : m[j]? = some f) (he : Mt.lit home l f e0 = some e1) (hk : x.ks = e1.filter fun b => !q b) : TsOk home l e0 m q (j + 1) (ts ++ [x]) :=
  ⟨fun y hy => by
    rcases List.mem_append.1 hy with hy | hy
    · exact ⟨by have := (h.each y hy).1; omega, (h.each y hy).2⟩
    · rw [List.mem_singleton] at hy; subst hy; exact ⟨by omega, f, e1, by rw [hx]; exact hf, he, hk⟩,
   by
    rw [List.map_append, List.map_cons, List.map_nil, List.nodup_append]
    refine ⟨h.nodup, by simp, fun a ha b hb => ?_⟩
    rw [List.mem_singleton] at hb
    obtain ⟨y, hy, rfl⟩ := List.mem_map.1 ha
    have := (h.each y hy).1
    omega,
   fun i hi f' e' hf' he' => by
    by_cases e : i = j
    · subst e; exact ⟨x, by simp, hx⟩
    · obtain ⟨y, hy, hyi⟩ := h.all i (by omega) f' e' hf' he'
      exact ⟨y, List.mem_append_left _ hy, hyi⟩⟩
/-- sorted, each once: a choice -/
theorem TsOk.choice {home : Tm} {l : Lt} {e0 : Mt.Env} {m : List F} {fs la : List UInt8 → Nat} {k : Nat} {ts ys : List Tk} (h : TsOk home l e0 m (Ml.own fs la k) m.length ts) (hp : ys.Perm ts) : Ml.Ch home fs la e0 m k l ((kept cTk ys ys.length).map Tk.i) := by
  have hsub := kept_sub cTk ys ys.length (Nat.le_refl _)
  rw [List.take_length] at hsub
  have hmem : ∀ x ∈ kept cTk ys ys.length, x ∈ ts := fun x hx => hp.mem_iff.1 (hsub.subset hx)
  refine ⟨(hsub.map Tk.i).nodup ((hp.map Tk.i).nodup_iff.2 h.nodup), fun i hi => ?_, fun f hf e1 he => ?_⟩
  · obtain ⟨x, hx, rfl⟩ := List.mem_map.1 hi
    exact (h.each x (hmem x hx)).1
  · obtain ⟨i, hi⟩ := List.getElem?_of_mem hf
    obtain ⟨x, hx, rfl⟩ := h.all i (List.getElem?_eq_some_iff.1 hi).1 f e1 hi he
    obtain ⟨jx, hjx, hx2⟩ := List.mem_iff_getElem.1 (hp.mem_iff.2 hx)
    obtain ⟨y, hy, hz⟩ := kept_has pre_cTk ys ys.length (Nat.le_refl _) jx hjx hjx
    rw [hx2] at hz
    obtain ⟨_, f', e', hf', he', hk'⟩ := h.each x hx
    rw [hi] at hf'; cases hf'
    rw [he] at he'; cases he'
    obtain ⟨_, g, e2, hg, hge, hk2⟩ := h.each y (hmem y hy)
    refine ⟨y.i, List.mem_map_of_mem hy, g, e2, hg, hge, ?_⟩
    rw [← hk', ← hk2]
    refine same_binds ?_ ((cL_zero cK_zero _ _).1 (by rw [← cL_vals]; exact hz))
    rw [hk', hk2]
    exact filter_by_var (fun b b' hb => by unfold Ml.own; rw [hb]) (Ml.lit_vars rfl he hge)

/-! the closure -/
theorem eqSpan (x y : Nat × Nat) (w : World) : (Op.equalIn 10000 159 (spv x) (spv y)).run Tryz.prog w = .ok (decide (x.1 = y.1) && decide (x.2 = y.2)) w := by
  rw [run_equalIn_struct w 9999 159 _ _ (by kernel_rfl) (by kernel_rfl)]
  simp only [Program.fieldsOf, Tryz.underlying159, Op.eqFields]
  simp [part, Tryz.isAgg3, run_equalIn_int w 9998 _ _ _ _ _ Tryz.underlying3]
  by_cases h1 : x.1 = y.1 <;> by_cases h2 : x.2 = y.2 <;> simp [h1, h2] <;> omega
set_option maxRecDepth 100000 in
theorem ownC_at (b : Bd) (bs bk bm k n : Nat) (f : Ml.SpF) (w : World) (hs : w.heap[bs]? = some (.cells #[.map (some bm)] 129)) (hk : w.heap[bk]? = some (.cells #[.int .i64 (k : Int)] 3)) (S : SpansAt w bm f n) (hb : b.1.length ≤ maxLen) :
    Calls Tryz.prog 113 #[bval b, ptr bs, ptr bk] w fun e w' => e = .returned (.bool (Ml.own (Ml.fsOf f) (Ml.laOf f) k b)) ∧ Below w.heap.size w w' := by
  obtain ⟨v, ⟨nm, n, s⟩⟩ := b
  simp only at hb
  have A0 := below_alloc w (.cells #[str v, .bool nm, .int .i64 n, str s] 99)
  have n0 := heap_alloc_new w (.cells #[str v, .bool nm, .int .i64 n, str s] 99)
  have s0 := below_heap A0 hs
  have k0 := below_heap A0 hk
  have L0 := (S.next A0).look1 v hb
  have E0 := hideP (fun W => eqSpan ((f v).getD (0, 0)) (k, k) W)
  have HR : Hid (Ml.own (Ml.fsOf f) (Ml.laOf f) k (v, ⟨nm, n, s⟩) = (decide (((f v).getD (0, 0)).1 = k) && decide (((f v).getD (0, 0)).2 = k))) := rfl
  generalize (f v).getD (0, 0) = x at *
  generalize hW : w.alloc (.cells #[str v, .bool nm, .int .i64 n, str s] 99) = W at *
  have c0 : W.cell? ⟨bs, 0, none⟩ = some (.map (some bm)) := by rw [heap_cell s0]; rfl
  have c1 : W.cell? ⟨bk, 0, none⟩ = some (.int .i64 (k : Int)) := by rw [heap_cell k0]; rfl
  have c2 : W.cell? ⟨w.heap.size, 0, none⟩ = some (str v) := by rw [heap_cell n0]; rfl
  have E := E0.out
  simp only at E
  go_enter Tryz.func113, Tryz.ntmps113
  go_wp2_with fail
  go_ret
  exact ⟨ret_bool HR.out.symm, A0⟩
theorem own_fn (bs bk bm k n : Nat) (f : Ml.SpF) (w : World) (hs : w.heap[bs]? = some (.cells #[.map (some bm)] 129)) (hk : w.heap[bk]? = some (.cells #[.int .i64 (k : Int)] 3)) (S : SpansAt w bm f n) :
    FnB 113 #[ptr bs, ptr bk] (Ml.own (Ml.fsOf f) (Ml.laOf f) k) (fun b => b.1.length ≤ maxLen) w :=
  ⟨enters_of Tryz.func113 (by kernel_rfl) rfl, fun b W hb hW => by
    obtain ⟨es, ck, hm⟩ := S.map
    exact ownC_at b bs bk bm k n f W (hW _ _ hs fun c z e => by cases e) (hW _ _ hk fun c z e => by cases e) (S.block (by rw [hm]; exact hW _ _ hm fun c z e => by cases e)) hb⟩
end Go.Proofs.YtdehimbfcilhpaaGreatDoor

/-
  choice: which facts are worth a try for a literal.
-/
namespace Go.Proofs.YtdehimbfcilhpaaGreatDoor
open Go.RowKit Go.Sort Go.Lib Go.Shelf

def iK : Kd Nat := ⟨fun n => [.int .i64 (n : Int)], 1, fun _ => rfl, fun _ => rfl, by decide⟩
theorem Tryz.iTk : (Tryz.prog.info? 193).map (fun i => (i.zero, i.size, i.bytes)) = some (some (.agg #[.int .i64 0, .slice none 0 0]), tkK.k, 32) := by kernel_rfl
theorem Tryz.iIn : (Tryz.prog.info? 3).map (fun i => (i.zero, i.size, i.bytes)) = some (some (.int .i64 0), iK.k, 8) := by kernel_rfl
theorem iF4 : (Tryz.prog.info? 36).map (·.size) = some 4 := by kernel_rfl
theorem iTk2 : (Tryz.prog.info? 193).map (·.size) = some 2 := by kernel_rfl
/-- FACTS in memory -/
structure Fts (w : World) (a : Option Addr) (c : Nat) (zs : List Fv) : Prop where
  row : Row fK w a c zs
  each : ∀ z ∈ zs, Fv.At w z
theorem Fts.below {w w' : World} {a : Option Addr} {c : Nat} {zs : List Fv} (h : Fts w a c zs) (hb : Below w.heap.size w w') : Fts w' a c zs := ⟨h.row.below hb (Nat.le_refl _), fun z hz => Fv.At.below (h.each z hz) hb (Nat.le_refl _)⟩
theorem blk_rowK2 {w : World} {g : Nat} {ts : List Tk} (h : Blk tkK 193 w g ts) : RowK2 w g ts := fun i hi c hc => by
  have r := h.range i hi
  obtain ⟨cur, h1, _⟩ := h
  refine ⟨?_, heap_frozen h1 _⟩
  have : c < (tkv ts[i]).length := by rw [tkv_len]; exact hc
  rw [List.getElem?_eq_getElem this]
  exact r c _ (List.getElem?_eq_getElem this)
theorem rowK2_range {w : World} {g : Nat} {ts : List Tk} (h : RowK2 w g ts) (i : Nat) (hi : i < ts.length) : w.rangeAt g (i * 2) (tkv ts[i]) := fun c v hv => by
  have hc : c < 2 := by have := (List.getElem?_eq_some_iff.1 hv).1; rwa [tkv_len] at this
  rw [(h i hi c hc).1]; exact hv

theorem compactT_none (f : Value) (w : World) : Calls Tryz.prog 147 #[.slice none 0 0, f] w fun e w' => e = .returned (.slice none 0 0) ∧ w = w' := by
  go_enter Tryz.func147, Tryz.ntmps147
  go_wp2_with fail
  go_ret
  exact ⟨rfl, rfl⟩
/-- sorted, each once: both calls -/
theorem kept_call (w : World) (v : Value) (base : Nat) (ts : List Tk) (hO : w.ownsRow base 193 tkK.k v ts.length (ts.flatMap tkK.enc)) (hr : ∀ x ∈ ts, RowT bK 99 w x.a x.cap x.ks) (hb : base ≤ w.heap.size) (hl : ts.length ≤ 1000000) :
    Calls Tryz.prog 144 #[v, .func (.func 145) #[] #[]] w fun e w1 => e = .returned (.tuple #[]) ∧ Below base w w1 ∧
      Calls Tryz.prog 147 #[v, .func (.func 148) #[] #[]] w1 fun e w2 => ∃ (ys : List Tk) (a : Option Addr) (c : Nat), ys.Perm ts ∧ e = .returned (.slice a (kept cTk ys ys.length).length c) ∧ Below base w w2 ∧ (kept cTk ys ys.length).length ≤ ts.length ∧ Row tkK w2 a c (kept cTk ys ys.length) := by
  rcases own_blk (D := tkK) hO with ⟨rfl, rfl⟩ | ⟨g, cap, rfl, hg, hc, hm, hB⟩
  · refine (sortT_none none 0 _ w).mono ?_
    rintro e w1 ⟨rfl, rfl⟩
    refine ⟨rfl, Below.refl _ _, (compactT_none _ w).mono ?_⟩
    rintro e w2 ⟨rfl, rfl⟩
    exact ⟨[], none, 0, List.Perm.refl _, rfl, Below.refl _ _, by simp [kept], Row.nil _ _⟩
  · obtain ⟨cur, hcur, _⟩ := id hB
    have hK : ∀ x ∈ ts, KeptT g w x := fun x hx W hW => ((hr x hx).safe (Safe.but hW hcur (by decide))).row
    refine (sortT_at w g cap ts hK (blk_rowK2 hB) hB.lt (by omega)).mono ?_
    rintro e w1 ⟨rfl, ys, hp, _, hrow, hbut⟩
    have hlen := hp.length_eq
    refine ⟨rfl, hbut.lower hg hb, ?_⟩
    have hK1 : ∀ x ∈ ys, KeptT g w1 x := fun x hx W hW => hK x (hp.mem_iff.1 hx) W (hbut.trans hW)
    have := compactT_at w1 g cap ys hK1 hrow (by have := hB.lt; have := hbut.size; omega) (by omega) (by omega)
    rw [hlen] at this
    refine this.mono ?_
    rintro e w2 ⟨rfl, h2, hbut2⟩
    have hkl : (kept cTk ys ts.length).length ≤ ts.length := kept_len cTk ys _ (by omega)
    have RR : Row tkK w2 (some ⟨g, 0, none⟩) cap (kept cTk ys ts.length) := by
      refine ⟨by omega, by omega, (fun h => by cases h), fun ad ha j u hu => ?_⟩
      cases ha
      obtain ⟨i, c, hi, hc', rfl, hv⟩ := flat_spot tkv 2 tkv_len _ j u hu
      rw [Addr.add_lit, Nat.zero_add, (h2 i hi c hc').1, hv]
    exact ⟨ys, some ⟨g, 0, none⟩, cap, hp, by rw [hlen], (hbut.trans hbut2).lower hg hb, by rw [hlen]; exact hkl, by rw [hlen]; exact RR⟩

set_option maxRecDepth 100000 in
set_option maxHeartbeats 2000000 in
theorem choice_at (home : Tm) (y : Lv) (a : Option Addr) (c : Nat) (e0 : List Bd) (ma : Option Addr) (mc : Nat) (zs : List Fv) {F : Nat} {cv : Array Value} (fs la : List UInt8 → Nat) (k : Nat) (w : World) (he : Row bK w a c e0) (hy : Lv.Aw w y) (hz : Fts w ma mc zs)
    (fn : FnB F cv (Ml.own fs la k) (fun b => b.1.length ≤ maxLen) w) (hok : ∀ z ∈ zs, ∀ b ∈ litE home y.l z.f e0, b.1.length ≤ maxLen) (hf : e0.length + y.args.length ≤ 800000) (hm : zs.length ≤ 1000000) :
    Calls Tryz.prog 114 #[tval home, lval y, .slice a e0.length c, .slice ma zs.length mc, .func (.func F) #[] cv] w fun e w' => (∃ a' c' ns, e = .returned (.slice a' ns.length c') ∧ RowT iK 3 w' a' c' ns ∧ From w.heap.size a' ∧ Ml.Ch home fs la e0 (zs.map Fv.f) k y.l ns) ∧ Below w.heap.size w w' := by
  obtain ⟨h0, h1, A0⟩ := boxes2 w (.cells #[str home.v, .bool home.k.num, .int .i64 home.k.n, str home.k.s] 58) (.cells #[str y.by_.v, .bool y.by_.k.num, .int .i64 y.by_.k.n, str y.by_.k.s, str y.pred, .slice y.a y.args.length y.cap, str y.at_.v, .bool y.at_.k.num, .int .i64 y.at_.k.n, str y.at_.k.s] 85)
  have TT := Tryz.underlying58
  have TL := Tryz.underlying85
  have TF := Tryz.underlying36
  have HOK := hideP hok
  have FN := hideP fn
  clear hok fn
  go_enter Tryz.func114, Tryz.ntmps114
  go_wp2_with fail
  generalize hW : (w.alloc (.cells #[str home.v, .bool home.k.num, .int .i64 home.k.n, str home.k.s] 58)).alloc (.cells #[str y.by_.v, .bool y.by_.k.num, .int .i64 y.by_.k.n, str y.by_.k.s, str y.pred, .slice y.a y.args.length y.cap, str y.at_.v, .bool y.at_.k.num, .int .i64 y.at_.k.n, str y.at_.k.s] 85) = W at *
  clear hW
  have S0 := hideP A0.size
  go_loopw [11, 12, 13, 14, 15, 21] (fun v11 _ _ _ _ v21 wr => ∃ (j : Nat) (ts : List Tk), v21 = .int .i64 (j : Int) ∧ j ≤ zs.length ∧ Hid (TsOk home y.l e0 (zs.map Fv.f) (Ml.own fs la k) j ts) ∧ ts.length ≤ j ∧ wr.ownsRow w.heap.size 193 tkK.k v11 ts.length (ts.flatMap tkK.enc) ∧ (∀ x ∈ ts, RowT bK 99 wr x.a x.cap x.ks) ∧ Below w.heap.size w wr ∧
      wr.heap[w.heap.size]? = some (.cells (tv home).toArray 58) ∧ wr.heap[w.heap.size + 1]? = some (.cells (lv y).toArray 85)) (fun _ _ _ _ _ v21 _ => zs.length - (intOf v21).toNat)
  case atStart => exact ⟨0, [], rfl, by omega, TsOk.start .., by simp, World.ownsRow_nil _ _ _ _, (by simp), A0, h0, h1⟩
  case round =>
    obtain ⟨j, ts, rfl, hj, hts, htl, hown, hrows, B, H0, H1⟩ := hrel
    by_cases hlt : j < zs.length
    · have q0 : (j : Int) < (zs.length : Int) := by omega
      have Zr := hz.below B
      obtain ⟨b, o, rfl⟩ := Zr.row.addr (by omega)
      have rg : wr.rangeAt b (o + j * 4) (fv (zs[j]'hlt)) := Zr.row.range j hlt
      have zAt := Zr.each _ (List.getElem_mem hlt)
      have hokj := HOK.out _ (List.getElem_mem hlt)
      have hmj : Hid ((zs.map Fv.f)[j]? = some (zs[j]'hlt).f) := by show _ = _; rw [List.getElem?_map, List.getElem?_eq_getElem hlt]; rfl
      generalize (zs[j]'hlt) = z at *
      have HZ := hideP hokj
      clear hokj
      have N1 := heap_alloc_new wr (.cells #[.string { data := #[] }, .string { data := #[] }, .string { data := #[] }, .slice none 0 0] 36)
      go_wp2_with (first
        | (refine wpList_load_mid rfl 36 _ rfl b (o + j * 4) rfl (fv z) _ rg TF rfl iF4 ?_)
        | (refine wpList_store_all rfl 36 _ _ rfl wr.heap.size 4 _ 36 (fv z) rfl rfl N1 rfl rfl iF4 rfl ?_; intro w2 N2 b2; have B2 := below_tok b2; have G0 := below_heap B2 H0; have G1 := below_heap B2 H1)
        | (refine wpList_load_all rfl 58 _ rfl w.heap.size 4 58 (tv home) _ rfl (by with_reducible exact G0) rfl TT rfl iT4 ?_)
        | (refine wpList_load_all rfl 85 _ rfl (w.heap.size + 1) 10 85 (lv y) _ rfl (by with_reducible exact G1) rfl TL rfl iL10 ?_)
        | (refine wpList_load_all rfl 36 _ rfl wr.heap.size 4 36 (fv z) _ rfl (by with_reducible exact N2) rfl TF rfl iF4 ?_))
      have BB := Below.then B B2
      have LEN : (litE home y.l z.f e0).length ≤ e0.length + (y.args.length + 2) := litE_len home y.l z.f e0
      refine (mLiteralO_at home y z a c e0 w2 (he.below BB (Nat.le_refl _)) (by omega) (hy.below BB (Nat.le_refl _)) (zAt.below B2 (Nat.le_refl _))).mono ?_
      rintro e w3 ⟨⟨a3, c3, rfl, o3⟩, b3⟩
      have B3 := Below.then B2 b3
      have K0 := below_heap b3 G0
      have K1 := below_heap b3 G1
      have O3 := ownsRow_keep hown (Safe.below B3)
      have R3 := fun x hx => (hrows x hx).safe (Safe.below B3)
      have WB := Below.then B B3
      cases hl : Mt.lit home y.l z.f e0 with
      | none =>
        obtain ⟨l1, l2⟩ := lit_of_none hl
        have TS := hideP (hts.out.skip (fun f hf => by rw [hmj.out] at hf; cases hf; exact hl))
        rw [l1, l2]
        clear hl l1 l2 o3 hts hmj
        go_wp2_with fail
        go_roundw
        case rel => exact ⟨j + 1, ts, rfl, hlt, TS, by omega, O3, R3, WB, K0, K1⟩
        case measure => simp [intOf]; omega
      | some e1 =>
        obtain ⟨l1, l2⟩ := lit_of_some hl
        rw [l1] at o3 LEN HZ
        rw [l1, l2]
        have HL := hideP hl
        have s3 : w2.heap.size ≤ w3.heap.size := b3.size
        have TD := hideP (delB_at w2.heap.size _ e1 w3 o3 s3 (FN.out.next (NoB.below WB)) HZ.out (by omega))
        clear hl l1 l2
        go_wp2_with fail
        refine TD.out.mono ?_
        rintro e w4 ⟨⟨a4, c4, rfl, R4, _⟩, b4, n4⟩
        have T4 : Below wr.heap.size wr w4 := B2.trans ((b3.trans b4).mono B2.size)
        obtain ⟨x, hx⟩ : ∃ x : Tk, x = ⟨j, a4, c4, e1.filter fun b => !Ml.own fs la k b⟩ := ⟨_, rfl⟩
        have TS := hideP (hts.out.put (x := x) (by rw [hx]) hmj.out HL.out (by rw [hx]))
        have X4 : RowT bK 99 w4 x.a x.cap x.ks := by rw [hx]; exact R4
        have EV : Hid (x.val = .agg #[.int .i64 (j : Int), .slice a4 (e1.filter fun b => !Ml.own fs la k b).length c4]) := by show _ = _; rw [hx]
        have O4 := ownsRow_keep hown (Safe.below T4)
        have W4 := Below.then B T4
        have hs4 := W4.size
        clear TD R4 hts hmj HL o3
        generalize (e1.filter fun b => !Ml.own fs la k b).length = n4' at *
        have A5 := below_alloc w4 (.cells (tkv x).toArray 193)
        have O5 := ownsRow_keep O4 (Safe.below A5)
        have R5 : Row tkK (w4.alloc (.cells (tkv x).toArray 193)) (some ⟨w4.heap.size, 0, none⟩) 1 [x] := row_new tkK w4 _ _ x rfl
        have HE : (.agg #[.int .i64 (j : Int), .slice a4 n4' c4] : Value) = .agg (tkv x).toArray := EV.out.symm
        have HE' := hideP HE
        clear HE EV hx
        go_wp2_with (first
          | (refine wpList_build_one rfl 190 193 _ rfl (tkv x) _ 2 32 HE'.out rfl (by decide) (by decide) Tryz.underlying190 Tryz.iTk ?_)
          | (at_builtin; refine wpList_append_rec tkK _ rfl _ _ 190 193 rfl _ 32 Tryz.underlying190 Tryz.iTk rfl (by decide) w.heap.size _ ts [x] (some ⟨w4.heap.size, 0, none⟩) 1 1 rfl O5 rfl rfl R5 (by have := A5.size; omega) (by simp only [List.length_cons, List.length_nil]; omega) ?_; intro v6 w6 o6 g6))
        have B6 : Below w.heap.size w w6 := (Below.then W4 A5).trans (own_below O5 g6 (by have := A5.size; omega))
        have SF := fun (ty : TypeId) (hn : ty ≠ 193) => (Safe.below (ty := ty) A5).trans (Safe.grown O5 g6 hn)
        have F0 := SF _ (by decide) _ _ (below_heap T4 H0)
        have F1 := SF _ (by decide) _ _ (below_heap T4 H1)
        have RX : ∀ x' ∈ ts ++ [x], RowT bK 99 w6 x'.a x'.cap x'.ks := fun x' hx' => by
          rcases List.mem_append.1 hx' with h | h
          · exact ((hrows x' h).safe (Safe.below T4)).safe (SF _ (by decide))
          · rw [List.mem_singleton] at h; subst h; exact X4.safe (SF _ (by decide))
        go_roundw
        case rel => exact ⟨j + 1, ts ++ [x], rfl, hlt, TS, by simp only [List.length_append, List.length_cons, List.length_nil]; omega, o6, RX, B6, F0, F1⟩
        case measure => simp [intOf]; omega
    · have q0 : ¬ (j : Int) < (zs.length : Int) := by omega
      obtain rfl : j = zs.length := by omega
      have TC := hideP (kept_call wr _ w.heap.size ts hown hrows (by have := B.size; omega) (by omega))
      clear hown hrows H0 H1 h0 h1
      go_wp2_with fail
      refine TC.out.mono ?_
      rintro e w3 ⟨rfl, b3, T3⟩
      have TC3 := hideP T3
      clear T3 TC
      go_wp2_with fail
      refine TC3.out.mono ?_
      rintro e w4 ⟨ys, ka, kc, hp, rfl, b4, hkl, Rk⟩
      have CH := hideP (TsOk.choice (by rw [List.length_map]; exact hts.out) hp)
      clear TC3 hts hp
      generalize kept cTk ys ys.length = KS at *
      have B4 : Below w.heap.size w w4 := B.trans b4
      have KF := Rk.few
      go_wp2_with fail
      go_loopw [16, 18, 50] (fun v16 _ v50 wi => ∃ (t : Nat) (ns : List Nat), v50 = .int .i64 (t : Int) ∧ t ≤ KS.length ∧ Hid (ns = (KS.take t).map Tk.i) ∧ ns.length = t ∧ wi.ownsRow w4.heap.size 3 iK.k v16 ns.length (ns.flatMap iK.enc) ∧ Below w4.heap.size w4 wi) (fun _ _ v50 _ => KS.length - (intOf v50).toNat)
      case atStart => exact ⟨0, [], rfl, by omega, rfl, rfl, World.ownsRow_nil _ _ _ _, Below.refl _ _⟩
      case round =>
        obtain ⟨t, ns, rfl, ht, hns, hnl, O, Bi⟩ := hrel
        by_cases hlt2 : t < KS.length
        · have q1 : (t : Int) < (KS.length : Int) := by omega
          obtain ⟨b, o, rfl⟩ := Rk.addr (by omega)
          have rg : wr.rangeAt b (o + t * 2) (tkv (KS[t]'hlt2)) := (Rk.below Bi (Nat.le_refl _)).range t hlt2
          have hn2 : Hid (ns ++ [(KS[t]'hlt2).i] = (KS.take (t + 1)).map Tk.i) := by
            show _ = _
            rw [List.take_succ_eq_append_getElem hlt2, List.map_append, hns.out]; rfl
          generalize (KS[t]'hlt2) = x at *
          have N1 := heap_alloc_new wr (.cells #[.int .i64 0, .slice none 0 0] 193)
          have TKu := Tryz.underlying193
          clear hns
          go_wp2_with (first
            | (refine wpList_load_mid rfl 193 _ rfl b (o + t * 2) rfl (tkv x) _ rg TKu rfl iTk2 ?_)
            | (refine wpList_store_all rfl 193 _ _ rfl wr.heap.size 2 _ 193 (tkv x) rfl rfl N1 rfl rfl iTk2 rfl ?_; intro w5 N5 b5; have B5 := below_tok b5; have c5 : w5.cell? ⟨wr.heap.size, 0, none⟩ = some (.int .i64 (x.i : Int)) := (by rw [heap_cell N5]; rfl); have A6 := below_alloc w5 (.cells #[.int .i64 (x.i : Int)] 3); have O6 := ownsRow_keep O (Safe.below (Below.then B5 A6)); have R6 : Row iK (w5.alloc (.cells #[.int .i64 (x.i : Int)] 3)) (some ⟨w5.heap.size, 0, none⟩) 1 [x.i] := row_new iK w5 _ _ x.i rfl; have hs5 := Bi.size; have hs6 := (Below.then B5 A6).size)
            | (at_builtin; refine wpList_append_rec iK _ rfl _ _ 163 3 rfl _ 8 Tryz.underlying163 Tryz.iIn rfl (by decide) w4.heap.size _ ns [x.i] (some ⟨w5.heap.size, 0, none⟩) 1 1 rfl O6 rfl rfl R6 (by omega) (by simp only [List.length_cons, List.length_nil]; omega) ?_; intro v7 w7 o7 g7))
          have B7 : Below w4.heap.size w4 w7 := (Bi.trans ((Below.then B5 A6).mono hs5)).trans (own_below O6 g7 (by omega))
          go_roundw
          case rel => exact ⟨t + 1, ns ++ [x.i], rfl, hlt2, hn2, by simp only [List.length_append, List.length_cons, List.length_nil]; omega, o7, B7⟩
          case measure => simp [intOf]; omega
        · have q1 : ¬ (t : Int) < (KS.length : Int) := by omega
          obtain rfl : t = KS.length := by omega
          rw [List.take_length] at hns
          obtain ⟨a7, c7, rfl, R7, F7⟩ := own_row (D := iK) O (by omega)
          go_wp2_with fail
          go_ret
          have hW7 : Below w.heap.size w wr := B4.trans (Bi.mono B4.size)
          refine ⟨⟨a7, c7, ns, by rw [hnl]; rfl, R7, From.mono F7 B4.size, ?_⟩, hW7⟩
          rw [hns.out]; exact CH.out
end Go.Proofs.YtdehimbfcilhpaaGreatDoor

/-
  choices: which facts are worth a try, literal by literal.
-/
namespace Go.Proofs.YtdehimbfcilhpaaGreatDoor
namespace Ml
open Mt (Tx Env uni lit)
theorem Chs.append {home : Tm} {fs la : Tx → Nat} {e0 : Env} {m : List F} : ∀ {ls ls' : List Lt} {nss nss' : List (List Nat)} {k : Nat}, Chs home fs la e0 m k ls nss → Chs home fs la e0 m (k + ls.length) ls' nss' → Chs home fs la e0 m k (ls ++ ls') (nss ++ nss')
  | [], ls', nss, nss', k, h, h' => by
    have : nss = [] := h
    subst this
    exact h'
  | l :: ls, ls', [], nss', k, h, h' => by cases h
  | l :: ls, ls', ns :: nss, nss', k, h, h' => by
    obtain ⟨h1, h2⟩ := h
    refine ⟨h1, Chs.append (ls := ls) h2 ?_⟩
    rw [List.length_cons] at h'
    rw [show k + 1 + ls.length = k + (ls.length + 1) by omega]; exact h'
theorem Chs.ranges {home : Tm} {fs la : Tx → Nat} {e0 : Env} {m : List F} : ∀ (ls : List Lt) (k : Nat), Chs home fs la e0 m k ls (ls.map fun _ => List.range m.length)
  | [], _ => rfl
  | _ :: ls, k => ⟨Ch.range, Chs.ranges ls (k + 1)⟩
theorem Chs.len {home : Tm} {fs la : Tx → Nat} {e0 : Env} {m : List F} : ∀ {ls : List Lt} {nss : List (List Nat)} {k : Nat}, Chs home fs la e0 m k ls nss → nss.length = ls.length
  | [], nss, _, h => by
    have : nss = [] := h
    subst this; rfl
  | _ :: _, [], _, h => by cases h
  | _ :: ls, _ :: nss, k, h => by rw [List.length_cons, List.length_cons, Chs.len (ls := ls) (k := k + 1) h.2]
/-- where a literal takes none, nothing follows -/
theorem Chs.none {r : Ru} {fs la : Tx → Nat} {e0 : Env} {m : List F} {l : Lt} {ls ls' : List Lt} {nss : List (List Nat)} {c : K} (hs : Spn r fs la) (hu : uni r.home c [] = some e0) (hb : r.body = ls ++ l :: ls') (h : Chs r.home fs la e0 m 0 ls nss) (hn : Ch r.home fs la e0 m ls.length l []) : envs r.home m r.body e0 = [] := by
  have hc : Chs r.home fs la e0 m 0 r.body (nss ++ [] :: ls'.map fun _ => List.range m.length) := by
    rw [hb]
    exact h.append (by rw [Nat.zero_add]; exact ⟨hn, Chs.ranges _ _⟩)
  have hy := Yw_none (home := r.home) (la := la) (m := m) r.body _ 0 e0 (Nat.le_of_eq hc.len) (List.mem_append_right _ (List.mem_cons_self ..))
  cases he : envs r.home m r.body e0 with
  | nil => rfl
  | cons e es =>
    obtain ⟨p, hp, _⟩ := Yw_complete hs (E0.of hu) r.body _ 0 e0 e0 (Nat.zero_le _) (by simp) hc (Pk.start hs (E0.of hu)) (Sim.refl _ _ _) e (by rw [he]; exact List.mem_cons_self ..)
    rw [hy] at hp; cases hp
end Ml
open Go.RowKit Go.Sort Go.Lib Go.Shelf

/-- numbers in memory, as an element -/
structure Nv where
  a : Option Addr
  cap : Nat
  ns : List Nat
def nK : Kd Nv := ⟨fun x => [.slice x.a x.ns.length x.cap], 1, fun _ => rfl, fun _ => rfl, by decide⟩
theorem Tryz.iNs : (Tryz.prog.info? 163).map (fun i => (i.zero, i.size, i.bytes)) = some (some (.slice none 0 0), nK.k, 24) := by kernel_rfl
/-- NUMBERS, literal by literal, in memory -/
structure NumsAt (w : World) (a : Option Addr) (c : Nat) (nvs : List Nv) : Prop where
  row : RowT nK 163 w a c nvs
  each : ∀ x ∈ nvs, RowT iK 3 w x.a x.cap x.ns
theorem NumsAt.safe {w w' : World} {a : Option Addr} {c : Nat} {nvs : List Nv} (h : NumsAt w a c nvs) (s1 : Safe 163 w w') (s2 : Safe 3 w w') : NumsAt w' a c nvs := ⟨h.row.safe s1, fun x hx => (h.each x hx).safe s2⟩
theorem litE_vars {home : Tm} {l : Lt} {f : F} {e0 : List Bd} {N : Nat} (h0 : ∀ b ∈ e0, b.1.length ≤ N) (hh : home.v.length ≤ N) (hl : ∀ v ∈ Ml.lvars l, v.length ≤ N) (hn : (e0.map (·.1)).Nodup) : ∀ b ∈ litE home l f e0, b.1.length ≤ N := fun b hb => by
  cases h : Mt.lit home l f e0 with
  | none => rw [(lit_of_none h).1] at hb; cases hb
  | some e1 =>
    rw [(lit_of_some h).1] at hb
    rcases (Ml.lit_nodup hn h).2 b.1 (List.mem_map_of_mem hb) with h1 | h1 | h1
    · obtain ⟨b', hb', e⟩ := List.mem_map.1 h1
      rw [← e]; exact h0 b' hb'
    · rw [h1]; exact hh
    · exact hl _ h1

set_option maxRecDepth 100000 in
set_option maxHeartbeats 2000000 in
theorem choices_at (x : Rv) (a : Option Addr) (c : Nat) (e0 : List Bd) (hc : K) (ma : Option Addr) (mc : Nat) (zs : List Fv) (bm n : Nat) (w : World) (hr : Rv.Aw w x) (hs : SmR x) (he : Row bK w a c e0) (hz : Fts w ma mc zs) (S : SpansAt w bm (Ml.spans x.r) n) (hu : Mt.uni x.home hc [] = some e0) (hm : zs.length ≤ 1000000) :
    Calls Tryz.prog 81 #[rval x, .slice a e0.length c, .slice ma zs.length mc, .map (some bm)] w fun e w' =>
      ((∃ a' c' nvs, e = .returned (.tuple #[.slice a' nvs.length c', .bool true]) ∧ NumsAt w' a' c' nvs ∧ From w.heap.size a' ∧ (∀ y ∈ nvs, From w.heap.size y.a) ∧ Ml.Chs x.home (Ml.fsOf (Ml.spans x.r)) (Ml.laOf (Ml.spans x.r)) e0 (zs.map Fv.f) 0 x.r.body (nvs.map Nv.ns)) ∨
       (e = .returned (.tuple #[.slice none 0 0, .bool false]) ∧ Ml.envs x.home (zs.map Fv.f) x.r.body e0 = [])) ∧ Below w.heap.size w w' := by
  have TL := Tryz.underlying85
  have TT := Tryz.underlying58
  obtain ⟨h0, h1, A0⟩ := boxes2 w (.cells #[str x.home.v, .bool x.home.k.num, .int .i64 x.home.k.n, str x.home.k.s, str x.pred, .slice x.a x.args.length x.cap, str x.to_.v, .bool x.to_.k.num, .int .i64 x.to_.k.n, str x.to_.k.s, .slice x.ba x.body.length x.bcap] 62) (.cells #[.map (some bm)] 129)
  have few := hr.body.few
  have hb300 := hs.body
  have E0 := Ml.E0.of (r := x.r) hu
  have el0 : e0.length ≤ 1 := by
    have := Mt.uni_len hu
    simpa using this
  have hh : x.home.v.length ≤ maxLen := hs.head _ (List.mem_cons_self ..)
  have hev : ∀ b ∈ e0, b.1.length ≤ maxLen := fun b hb => by rw [E0.home b.1 (List.mem_map_of_mem hb)]; exact hh
  have SPN := hideP (Ml.spans_spn x.r)
  have HU := hideP hu
  have END := hideP E0.nodup
  have HEV := hideP hev
  clear hu E0 hev
  have KE := hideP (fun y (hy : y ∈ x.body) => hs.lits y hy)
  have KA := hideP (fun y (hy : y ∈ x.body) => hs.each y hy)
  have RE := hideP hr.each
  have RB := hr.body
  have HH := hideP hh
  clear hr hs hh
  go_enter Tryz.func81, Tryz.ntmps81
  have c10 := heap_cell h0 10
  simp at c10
  go_wp2_with fail
  generalize hW : (w.alloc (.cells #[str x.home.v, .bool x.home.k.num, .int .i64 x.home.k.n, str x.home.k.s, str x.pred, .slice x.a x.args.length x.cap, str x.to_.v, .bool x.to_.k.num, .int .i64 x.to_.k.n, str x.to_.k.s, .slice x.ba x.body.length x.bcap] 62)).alloc (.cells #[.map (some bm)] 129) = W at *
  have H0' : W.heap[w.heap.size]? = some (.cells (rv x).toArray 62) := h0
  clear hW h0 c10
  generalize hba : x.ba = ba at *
  have Hba := hideP hba
  clear hba
  go_loopw [10, 11, 12, 13, 14, 18] (fun v10 _ _ _ _ v18 wr => ∃ (j : Nat) (nvs : List Nv), v18 = .int .i64 (j : Int) ∧ j ≤ x.body.length ∧ nvs.length = j ∧ Hid (Ml.Chs x.home (Ml.fsOf (Ml.spans x.r)) (Ml.laOf (Ml.spans x.r)) e0 (zs.map Fv.f) 0 ((x.body.take j).map Lv.l) (nvs.map Nv.ns)) ∧ wr.ownsRow w.heap.size 163 nK.k v10 nvs.length (nvs.flatMap nK.enc) ∧ (∀ y ∈ nvs, RowT iK 3 wr y.a y.cap y.ns ∧ From w.heap.size y.a) ∧ Below w.heap.size w wr ∧
      wr.heap[w.heap.size]? = some (.cells (rv x).toArray 62) ∧ wr.heap[w.heap.size + 1]? = some (.cells #[.map (some bm)] 129)) (fun _ _ _ _ _ v18 _ => x.body.length - (intOf v18).toNat)
  case atStart => exact ⟨0, [], rfl, by omega, rfl, rfl, World.ownsRow_nil _ _ _ _, (by simp), A0, H0', h1⟩
  case round =>
    obtain ⟨j, nvs, rfl, hj, hnl, hch, hown, hrows, B, H0, H1⟩ := hrel
    by_cases hlt : j < x.body.length
    · have q0 : (j : Int) < (x.body.length : Int) := by omega
      have Rb := RB.below B (Nat.le_refl _)
      obtain ⟨b, o, rfl⟩ := Rb.addr (by omega)
      have rg : wr.rangeAt b (o + j * 10) (lv (x.body[j]'hlt)) := Rb.range j hlt
      have yAt := (RE.out _ (List.getElem_mem hlt)).below B (Nat.le_refl _)
      have ylv := KE.out _ (List.getElem_mem hlt)
      have yar := KA.out _ (List.getElem_mem hlt)
      have hsp : Hid (x.r.body = (x.body.take j).map Lv.l ++ (x.body[j]'hlt).l :: (x.body.drop (j + 1)).map Lv.l) := by
        show x.body.map Lv.l = _
        rw [← List.map_cons, ← List.map_append]
        congr 1
        rw [← List.drop_eq_getElem_cons hlt, List.take_append_drop]
      have htk : Hid ((x.body.take (j + 1)).map Lv.l = (x.body.take j).map Lv.l ++ [(x.body[j]'hlt).l]) := by
        show _ = _
        rw [List.take_succ_eq_append_getElem hlt, List.map_append]; rfl
      generalize (x.body[j]'hlt) = y at *
      have N1 := boxes2 wr (.cells #[.int .i64 0] 3) (.cells #[.string { data := #[] }, .bool false, .int .i64 0, .string { data := #[] }, .string { data := #[] }, .slice none 0 0, .string { data := #[] }, .bool false, .int .i64 0, .string { data := #[] }] 85)
      have r0 : ∀ W : World, W.heap[w.heap.size]? = some (.cells (rv x).toArray 62) → W.rangeAt w.heap.size 0 (tv x.home) := fun W h => World.rangeAt_of_block h 0 4
      obtain ⟨N11, N12, N13⟩ := N1
      go_wp2_with (first
        | (refine wpList_load_mid rfl 85 _ rfl b (o + j * 10) rfl (lv y) _ rg TL rfl iL10 ?_)
        | (refine wpList_store_cel rfl 3 _ _ rfl wr.heap.size 0 1 3 (.int .i64 (j : Int)) #[.int .i64 (j : Int)] rfl rfl N11 rfl (by decide) (by kernel_rfl) rfl rfl ?_; intro w2 M2 b2; have L2 := b2.heap (by omega) N12; have B2 : Below wr.heap.size wr w2 := N13.trans (b2.lower (Nat.le_refl _) N13.size))
        | (refine wpList_store_all rfl 85 _ _ rfl (wr.heap.size + 1) 10 _ 85 (lv y) rfl rfl L2 rfl rfl iL10 rfl ?_; intro w3 L3 b3; have M3 := b3.heap (by omega) M2; have B3 : Below wr.heap.size wr w3 := B2.trans (b3.lower (by omega) B2.size); have G0 := below_heap B3 H0; have G1 := below_heap B3 H1; have r3 := r0 w3 G0)
        | (refine wpList_load_mid rfl 58 _ rfl w.heap.size 0 rfl (tv x.home) _ r3 TT rfl iT4 ?_)
        | (refine wpList_load_all rfl 85 _ rfl (wr.heap.size + 1) 10 85 (lv y) _ rfl (by with_reducible exact L3) rfl TL rfl iL10 ?_))
      have BB := Below.then B B3
      have FN := own_fn (w.heap.size + 1) wr.heap.size bm j n (Ml.spans x.r) w3 G1 M3 (S.next BB)
      refine (choice_at x.home y a c e0 ma mc zs (Ml.fsOf (Ml.spans x.r)) (Ml.laOf (Ml.spans x.r)) j w3 (he.below BB (Nat.le_refl _)) (yAt.below B3 (Nat.le_refl _)) (hz.below BB) FN (fun z _ => litE_vars HEV.out HH.out ylv END.out) (by omega) hm).mono ?_
      rintro e w4 ⟨⟨a4, c4, ns, rfl, R4, F4, C4⟩, b4⟩
      have HC4 := hideP C4
      clear C4 FN r3 r0
      have B4 := Below.then B3 b4
      have WB := Below.then B B4
      have K0 := below_heap B4 H0
      have K1 := below_heap B4 H1
      have few4 := R4.row.few
      by_cases h4 : ns = []
      · have FIN : Hid (Ml.envs x.home (zs.map Fv.f) x.r.body e0 = []) := by
          refine Ml.Chs.none (r := x.r) SPN.out HU.out hsp.out hch.out ?_
          have hl : ((x.body.take j).map Lv.l).length = j := by rw [List.length_map, List.length_take]; omega
          rw [hl, ← h4]; exact HC4.out
        subst h4
        clear hch hsp htk HC4
        go_wp2_with fail
        go_ret2
        exact ⟨.inr ⟨rfl, FIN.out⟩, WB⟩
      · have q4 : ((ns.length : Int) == 0) = false := by
          rw [beq_eq_false_iff_ne]
          intro h
          exact h4 (List.eq_nil_of_length_eq_zero (by omega))
        obtain ⟨nv, hnv⟩ : ∃ nv : Nv, nv = ⟨a4, c4, ns⟩ := ⟨_, rfl⟩
        have CH2 : Hid (Ml.Chs x.home (Ml.fsOf (Ml.spans x.r)) (Ml.laOf (Ml.spans x.r)) e0 (zs.map Fv.f) 0 ((x.body.take (j + 1)).map Lv.l) ((nvs ++ [nv]).map Nv.ns)) := by
          show Ml.Chs ..
          rw [htk.out, List.map_append]
          refine hch.out.append ?_
          have hl : ((x.body.take j).map Lv.l).length = j := by rw [List.length_map, List.length_take]; omega
          rw [hl, Nat.zero_add, hnv]
          exact ⟨HC4.out, rfl⟩
        have XR : RowT iK 3 w4 nv.a nv.cap nv.ns ∧ From w.heap.size nv.a := by rw [hnv]; exact ⟨R4, From.mono F4 BB.size⟩
        have A5 := below_alloc w4 (.cells #[.slice a4 ns.length c4] 163)
        have O5 := ownsRow_keep hown (Safe.below (Below.then B4 A5))
        have R5 : Row nK (w4.alloc (.cells #[.slice a4 ns.length c4] 163)) (some ⟨w4.heap.size, 0, none⟩) 1 [nv] := row_new nK w4 _ _ nv (by rw [hnv]; rfl)
        have hs5 := (Below.then WB A5).size
        clear hch hsp htk HC4 hnv h4
        go_wp2_with (at_builtin; refine wpList_append_rec nK _ rfl _ _ 131 163 rfl _ 24 Tryz.underlying131 Tryz.iNs rfl (by decide) w.heap.size _ nvs [nv] (some ⟨w4.heap.size, 0, none⟩) 1 1 rfl O5 rfl rfl R5 (by omega) (by simp only [List.length_cons, List.length_nil]; omega) ?_; intro v6 w6 o6 g6)
        have B6 : Below w.heap.size w w6 := (Below.then WB A5).trans (own_below O5 g6 hs5)
        have SF := fun (ty : TypeId) (hn : ty ≠ 163) => (Safe.below (ty := ty) A5).trans (Safe.grown O5 g6 hn)
        have F0 := SF _ (by decide) _ _ K0
        have F1 := SF _ (by decide) _ _ K1
        have RX : ∀ x' ∈ nvs ++ [nv], RowT iK 3 w6 x'.a x'.cap x'.ns ∧ From w.heap.size x'.a := fun x' hx' => by
          rcases List.mem_append.1 hx' with h | h
          · exact ⟨((hrows x' h).1.safe (Safe.below B4)).safe (SF _ (by decide)), (hrows x' h).2⟩
          · rw [List.mem_singleton] at h; subst h; exact ⟨XR.1.safe (SF _ (by decide)), XR.2⟩
        go_roundw
        case rel => exact ⟨j + 1, nvs ++ [nv], rfl, hlt, by simp only [List.length_append, List.length_cons, List.length_nil]; omega, CH2, o6, RX, B6, F0, F1⟩
        case measure => simp [intOf]; omega
    · have q0 : ¬ (j : Int) < (x.body.length : Int) := by omega
      obtain rfl : j = x.body.length := by omega
      rw [List.take_length] at hch
      obtain ⟨a7, c7, rfl, R7, F7⟩ := own_row (D := nK) hown (by omega)
      have HNL := hideP hnl
      clear hnl
      go_wp2_with fail
      go_ret2
      exact ⟨.inl ⟨a7, c7, nvs, rfl, ⟨R7, fun y hy => (hrows y hy).1⟩, F7, fun y hy => (hrows y hy).2, hch.out⟩, B⟩
end Go.Proofs.YtdehimbfcilhpaaGreatDoor
