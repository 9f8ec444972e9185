/-
  ordered: a list in order, each once, in a row of its own.
-/
import Derived.Test.YtdlhleblolcjpabCpt2
namespace Go.Proofs.Ytdlhleblolcjpab
open Go.RowKit Go.Sort

/-- a slice of facts in a row of the call's own, or nil -/
structure OwnF (w : World) (base : Nat) (a : Option Addr) (cap : Nat) (xs : List Fv) : Prop where
  room : xs.length ≤ cap
  most : cap ≤ maxLen
  few : xs.length ≤ 1954687338211
  void : a = none → xs = [] ∧ cap = 0
  row : ∀ ad, a = some ad → ∃ g, ad = ⟨g, 0, none⟩ ∧ base ≤ g ∧ g < w.heap.size ∧ RowF w g xs
theorem OwnF.nil (w : World) (base : Nat) : OwnF w base none 0 [] := ⟨Nat.le_refl _, by simp, by simp, fun _ => ⟨rfl, rfl⟩, fun _ h => by cases h⟩
theorem OwnF.lies {w : World} {base : Nat} {a : Option Addr} {cap : Nat} {xs : List Fv} (h : OwnF w base a cap xs) : Lies w a cap xs :=
  ⟨h.room, h.most, h.few, h.void, fun ad ha => by obtain ⟨g, rfl, _, _, hr⟩ := h.row ad ha; exact hr.cells⟩
theorem OwnF.below {w w' : World} {base : Nat} {a : Option Addr} {cap : Nat} {xs : List Fv} (h : OwnF w base a cap xs) (hb : Below w.heap.size w w') : OwnF w' base a cap xs :=
  ⟨h.room, h.most, h.few, h.void, fun ad ha => by obtain ⟨g, rfl, h1, h2, hr⟩ := h.row ad ha; exact ⟨g, rfl, h1, Nat.lt_of_lt_of_le h2 hb.size, hr.below hb h2⟩⟩
theorem OwnF.lower {w : World} {base base' : Nat} {a : Option Addr} {cap : Nat} {xs : List Fv} (h : OwnF w base a cap xs) (hb : base' ≤ base) : OwnF w base' a cap xs :=
  ⟨h.room, h.most, h.few, h.void, fun ad ha => by obtain ⟨g, rfl, h1, h2, hr⟩ := h.row ad ha; exact ⟨g, rfl, Nat.le_trans hb h1, h2, hr⟩⟩

/-- a row of facts of the call's own -/
theorem own_facts {w : World} {base : Nat} {v : Value} {n : Nat} {xs : List Fv} (h : w.ownsRow base 24 4 v n (fcells xs)) (hf : xs.length ≤ 1954687338211) :
    ∃ a c, v = .slice a xs.length c ∧ OwnF w base a c xs := by
  have hn : xs.length = n := by have := h.1; rw [fcells_len] at this; omega
  subst hn
  rcases h.2 with ⟨hv, h0⟩ | ⟨g, cap, cur, hv, hb, hg, hnc, hcm, hcs, ht⟩
  · have : xs = [] := List.eq_nil_of_length_eq_zero h0
    subst this
    exact ⟨none, 0, hv, OwnF.nil w base⟩
  · have hgs : g < w.heap.size := by
      rcases Nat.lt_or_ge g w.heap.size with h' | h'
      · exact h'
      · simp [h'] at hg
    refine ⟨some ⟨g, 0, none⟩, cap, hv, ⟨hnc, hcm, hf, (fun h => by cases h), fun ad ha => ?_⟩⟩
    cases ha
    refine ⟨g, rfl, hb, hgs, fun i hi c hc => ?_⟩
    refine ⟨?_, heap_frozen hg _⟩
    have h1 := flat_get fv 4 fv_len xs i c hi hc
    have hj : i * 4 + c < xs.length * 4 := by omega
    rw [heap_cell hg, ← h1]
    show _ = (fcells xs)[i * 4 + c]?
    rw [← ht, List.getElem?_take, if_pos hj, Array.getElem?_toList]

/-- append(row, facts...) of rows that the call owns -/
theorem wpList_append_fs (w : World) {ops : Array Oper} {rest : List Oper} {o : Oper} {a : Act} {Q : Exit → Act → World → Prop} (hgd : o.guard = none) (s x : Operand)
    (ho : o.op = .call { callee := .builtin .append, args := #[s, x], argTypes := #[35, 35] })
    (base : Nat) (v : Value) (ys xs : List Fv) (ao : Option Addr) (c : Nat) (hs : a.eval s = v) (hown : w.ownsRow base 24 4 v ys.length (fcells ys)) (hx : a.eval x = .slice ao xs.length c) (hl : Lies w ao c xs) (hbase : base ≤ w.heap.size)
    (hfew : ys.length + xs.length ≤ 1954687338211)
    (h : ∀ v' w', w'.ownsRow base 24 4 v' (ys ++ xs).length (fcells (ys ++ xs)) → w.grownBy w' v.ownBlock → wpList Try.prog ops Q rest (a.put o.dst v') w') : wpList Try.prog ops Q (o :: rest) a w := by
  obtain ⟨i0, hi, hz0, hz1, hz2⟩ := info_parts Try.infoF
  cases ao with
  | none =>
    obtain ⟨rfl, rfl⟩ := hl.void rfl
    refine wpList_append_own_none hgd s x 35 ho base 24 i0 4 Try.underlying35 hi _ ys.length (fcells ys) hs hown hx ?_
    rw [hs] at *
    exact h v w (by simpa using hown) ⟨rfl, rfl, rfl, Nat.le_refl _, fun _ _ _ => rfl⟩
  | some ad =>
    refine wpList_append_own w hgd s x 35 ho base 24 i0 _ 4 72 Try.underlying35 hi hz0 hz1 hz2 rfl (by decide) _ ys.length (fcells ys) hs hown ad xs.length c (fcells xs) hx (fcells_len xs) (hl.cells ad rfl) (fcells_one xs) (by unfold maxLen; omega) (by omega) hbase ?_
    intro v' w' ho' hg' hn'
    exact h v' w' (by rw [List.length_append, fcells_append]; exact ho') hg'

theorem compact_none (a : Option Addr) (c : Nat) (f : Value) (w : World) : Calls Try.prog 21 #[.slice a 0 c, f] w fun e w' => e = .returned (.slice a 0 c) ∧ w = w' := by
  go_enter Try.func21, Try.ntmps21
  go_wp2_with fail
  go_ret
  exact ⟨rfl, rfl⟩

/-- sorted, and of neighbours that are the same the first: the list in order, each once -/
theorem kept_sortF (xs zs : List Fv) (hp : zs.Perm xs) (hs : SortedL zs) : (kept cV zs zs.length).map Fv.f = sortF (xs.map Fv.f) := by
  have hpre : Pre cV := pre_cF.on Fv.f
  obtain ⟨h1, h2⟩ := kept_sorted cV hpre zs (fun i j hi hj h => hs i j hi hj h) zs.length (Nat.le_refl _)
  refine sortF_of ?_ fun x => ?_
  · show List.Pairwise _ _
    rw [List.pairwise_map]; exact h1
  · constructor
    · intro hx
      obtain ⟨y, hy, rfl⟩ := List.mem_map.1 hx
      have := kept_mem cV zs zs.length (Nat.le_refl _) y hy
      rw [List.take_length] at this
      exact List.mem_map_of_mem (hp.mem_iff.1 this)
    · intro hx
      obtain ⟨y, hy, rfl⟩ := List.mem_map.1 hx
      obtain ⟨j, hj, rfl⟩ := List.getElem_of_mem (hp.mem_iff.2 hy)
      obtain ⟨z, hz, h0⟩ := h2 j hj hj
      have : z.f = zs[j].f := (cF_zero _ _).1 h0
      rw [← this]
      exact List.mem_map_of_mem hz
theorem kept_in (xs zs : List Fv) (hp : zs.Perm xs) : ∀ y ∈ kept cV zs zs.length, y ∈ xs := fun y hy => by
  have := kept_mem cV zs zs.length (Nat.le_refl _) y hy
  rw [List.take_length] at this
  exact hp.mem_iff.1 this

set_option maxHeartbeats 1000000 in
theorem ordered_at (a : Option Addr) (cap : Nat) (xs : List Fv) (w : World) (hl : Lies w a cap xs) (hx : ∀ x ∈ xs, Fv.At w x) : Calls Try.prog 15 #[.slice a xs.length cap] w
    fun e w' => ∃ a' c' ys, e = .returned (.slice a' ys.length c') ∧ OwnF w' w.heap.size a' c' ys ∧ (∀ y ∈ ys, y ∈ xs) ∧ ys.map Fv.f = sortF (xs.map Fv.f) ∧ Below w.heap.size w w' := by
  have hown : w.ownsRow w.heap.size 24 4 (.slice none 0 0) ([] : List Fv).length (fcells []) := ⟨rfl, .inl ⟨rfl, rfl⟩⟩
  have few := hl.few
  have hS := fun (f : Value) (c : Nat) (p : Option Addr) (W : World) => sort_none p c f W
  have hK := fun (f : Value) (c : Nat) (p : Option Addr) (W : World) => compact_none p c f W
  go_enter Try.func15, Try.ntmps15
  go_wp2_with (at_builtin; refine wpList_append_fs w rfl _ _ rfl w.heap.size (.slice none 0 0) [] xs a cap rfl hown rfl hl (Nat.le_refl _) (by simpa using few) ?ap)
  case ap =>
    intro v' w1 ho hg
    have hb1 : Below w.heap.size w w1 := (Below.refl _ _).grown hg (Nat.le_refl _) (fun k hk => by cases hk)
    obtain ⟨a1, c1, rfl, hO⟩ := own_facts ho few
    clear ho hg hown
    by_cases h0 : xs = []
    · subst h0
      go_wp2_with fail
      refine (hS _ _ _ _).mono ?_; rintro e w2 ⟨rfl, rfl⟩
      go_wp2_with fail
      refine (hK _ _ _ _).mono ?_; rintro e w2 ⟨rfl, rfl⟩
      go_wp2_with fail
      go_ret
      exact ⟨a1, c1, [], rfl, hO, fun _ h => h, by rw [List.map_nil]; unfold sortF; rfl, hb1⟩
    · have hpos : 0 < xs.length := List.length_pos_iff.2 h0
      cases a1 with
      | none => exact absurd (hO.void rfl).1 h0
      | some ad =>
        obtain ⟨g, rfl, hg0, hg1, hrow⟩ := hO.row ad rfl
        have hsort := sort_at w w1 g c1 xs hx hb1 hg0 hrow hg1 (by omega)
        go_wp2_with fail
        refine hsort.mono ?_; rintro e w2 ⟨rfl, zs, hp, hs, hrow2, hbut⟩
        have hlen : zs.length = xs.length := hp.length_eq
        have hcp := compact_at w w2 g c1 zs (fun x hx' => hx x (hp.mem_iff.1 hx')) (hb1.trans (hbut.lower hg0 hb1.size)) hg0 hrow2 (Nat.lt_of_lt_of_le hg1 hbut.size) (by have := hO.room; omega) (by omega)
        rw [hlen] at hcp
        have e1 := hideP (kept_sortF xs zs hp hs)
        have e2 := hideP (kept_in xs zs hp)
        rw [hlen] at e1 e2
        have e3 : (kept cV zs xs.length).length ≤ xs.length := kept_len cV zs xs.length (by omega)
        generalize kept cV zs xs.length = ys at *
        have E3 := hideP e3; clear e3
        go_wp2_with fail
        refine hcp.mono ?_; rintro e w3 ⟨rfl, hrow3, hbut3⟩
        go_wp2_with fail
        go_ret
        have e3 := E3.out
        have hroom := hO.room
        refine ⟨some ⟨g, 0, none⟩, c1, ys, rfl, ⟨by omega, hO.most, by omega, (fun h => by cases h), fun ad ha => ?_⟩, e2.out, e1.out, hb1.trans ((hbut.trans hbut3).lower hg0 hb1.size)⟩
        cases ha
        exact ⟨g, rfl, hg0, Nat.lt_of_lt_of_le hg1 (hbut.trans hbut3).size, hrow3⟩

end Go.Proofs.Ytdlhleblolcjpab
