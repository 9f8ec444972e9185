/-
  ordered: a list in order, each once, in a row of its own.
-/
import Derived.Shelf.SlSortCmp.QuietGrown
import Derived.Deep.QuietTactic
import Derived.BigQuiet
import Derived.Test.YtpdmmmdkpipmkaaGreatDoorQCpt2
import Derived.Test.YtpdmmmdkpipmkaaGreatDoorQShelf3
namespace Go.Proofs.YtpdmmmdkpipmkaaGreatDoor
open Go.RowKit Go.Sort

/-- a slice of facts in a row of the call's own, or nil -/
structure OwF (w : World) (base : Nat) (a : Option Addr) (cap : Nat) (xs : List Fv) : Prop where
  room : xs.length ≤ cap
  most : cap ≤ maxLen
  few : xs.length ≤ 1954687338211
  void : a = none → xs = [] ∧ cap = 0
  row : ∀ ad, a = some ad → ∃ g, ad = ⟨g, 0, none⟩ ∧ base ≤ g ∧ g < w.heap.size ∧ RowF w g xs
theorem OwF.nil (w : World) (base : Nat) : OwF w base none 0 [] := ⟨Nat.le_refl _, by simp, by simp, fun _ => ⟨rfl, rfl⟩, fun _ h => by cases h⟩
theorem OwF.lies {w : World} {base : Nat} {a : Option Addr} {cap : Nat} {xs : List Fv} (h : OwF w base a cap xs) : Lies w a cap xs :=
  ⟨h.room, h.most, h.few, h.void, fun ad ha => by obtain ⟨g, rfl, _, _, hr⟩ := h.row ad ha; exact hr.cells⟩
theorem OwF.below {w w' : World} {base : Nat} {a : Option Addr} {cap : Nat} {xs : List Fv} (h : OwF w base a cap xs) (hb : Below w.heap.size w w') : OwF w' base a cap xs :=
  ⟨h.room, h.most, h.few, h.void, fun ad ha => by obtain ⟨g, rfl, h1, h2, hr⟩ := h.row ad ha; exact ⟨g, rfl, h1, Nat.lt_of_lt_of_le h2 hb.size, hr.below hb h2⟩⟩
theorem OwF.lower {w : World} {base base' : Nat} {a : Option Addr} {cap : Nat} {xs : List Fv} (h : OwF w base a cap xs) (hb : base' ≤ base) : OwF w base' a cap xs :=
  ⟨h.room, h.most, h.few, h.void, fun ad ha => by obtain ⟨g, rfl, h1, h2, hr⟩ := h.row ad ha; exact ⟨g, rfl, Nat.le_trans hb h1, h2, hr⟩⟩

/-- a row of facts of the call's own -/
theorem own_facts {w : World} {base : Nat} {v : Value} {n : Nat} {xs : List Fv} (h : w.ownsRow base 37 4 v n (fcells xs)) (hf : xs.length ≤ 1954687338211) :
    ∃ a c, v = .slice a xs.length c ∧ OwF w base a c xs := by
  have hn : xs.length = n := by have := h.1; rw [fcells_len] at this; omega
  subst hn
  rcases h.2 with ⟨hv, h0⟩ | ⟨g, cap, cur, hv, hb, hg, hnc, hcm, hcs, ht⟩
  · have : xs = [] := List.eq_nil_of_length_eq_zero h0
    subst this
    exact ⟨none, 0, hv, OwF.nil w base⟩
  · have hgs : g < w.heap.size := by
      rcases Nat.lt_or_ge g w.heap.size with h' | h'
      · exact h'
      · simp [h'] at hg
    refine ⟨some ⟨g, 0, none⟩, cap, hv, ⟨hnc, hcm, hf, (fun h => by cases h), fun ad ha => ?_⟩⟩
    cases ha
    refine ⟨g, rfl, hb, hgs, fun i hi c hc => ?_⟩
    refine ⟨?_, heap_frozen hg _⟩
    have h1 := flat_get fv 4 fv_len xs i c hi hc
    have hj : i * 4 + c < xs.length * 4 := by omega
    rw [heap_cell hg, ← h1]
    show _ = (fcells xs)[i * 4 + c]?
    rw [← ht, List.getElem?_take, if_pos hj, Array.getElem?_toList]

/-- append(row, facts...) of rows that the call owns -/
theorem wpList_append_fs (w : World) {ops : Array Oper} {rest : List Oper} {o : Oper} {a : Act} {Q : Exit → Act → World → Prop} (hgd : o.guard = none) (s x : Operand)
    (ho : o.op = .call { callee := .builtin .append, args := #[s, x], argTypes := #[32, 32] })
    (base : Nat) (v : Value) (ys xs : List Fv) (ao : Option Addr) (c : Nat) (hs : a.eval s = v) (hown : w.ownsRow base 37 4 v ys.length (fcells ys)) (hx : a.eval x = .slice ao xs.length c) (hl : Lies w ao c xs) (hbase : base ≤ w.heap.size)
    (hfew : ys.length + xs.length ≤ 1954687338211)
    (h : ∀ v' w', w'.ownsRow base 37 4 v' (ys ++ xs).length (fcells (ys ++ xs)) → w.grownBy w' v.ownBlock → wpList Tryz.prog ops Q rest (a.put o.dst v') w') : wpList Tryz.prog ops Q (o :: rest) a w := by
  obtain ⟨i0, hi, hz0, hz1, hz2⟩ := info_parts Tryz.infoF
  cases ao with
  | none =>
    obtain ⟨rfl, rfl⟩ := hl.void rfl
    refine wpList_append_own_none hgd s x 32 ho base 37 i0 4 Tryz.underlying32 hi _ ys.length (fcells ys) hs hown hx ?_
    rw [hs] at *
    exact h v w (by simpa using hown) ⟨rfl, rfl, rfl, Nat.le_refl _, fun _ _ _ => rfl⟩
  | some ad =>
    refine wpList_append_own w hgd s x 32 ho base 37 i0 _ 4 72 Tryz.underlying32 hi hz0 hz1 hz2 rfl (by decide) _ ys.length (fcells ys) hs hown ad xs.length c (fcells xs) hx (fcells_len xs) (hl.cells ad rfl) (fcells_one xs) (by unfold maxLen; omega) (by omega) hbase ?_
    intro v' w' ho' hg' hn'
    exact h v' w' (by rw [List.length_append, fcells_append]; exact ho') hg'

theorem compact_none (a : Option Addr) (c : Nat) (f : Value) (w : World) : Calls Tryz.prog 95 #[.slice a 0 c, f] w fun e w' => e = .returned (.slice a 0 c) ∧ w = w' := by
  go_enter Tryz.func95, Tryz.ntmps95
  go_wp2_with fail
  go_ret
  exact ⟨rfl, rfl⟩

/-- sorted, and of neighbours that are the same the first: the list in order, each once -/
theorem kept_sortF (xs zs : List Fv) (hp : zs.Perm xs) (hs : SortedL zs) : (kept cV zs zs.length).map Fv.f = sortF (xs.map Fv.f) := by
  have hpre : Pre cV := pre_cF.on Fv.f
  obtain ⟨h1, h2⟩ := kept_sorted cV hpre zs (fun i j hi hj h => hs i j hi hj h) zs.length (Nat.le_refl _)
  refine sortF_of ?_ fun x => ?_
  · show List.Pairwise _ _
    rw [List.pairwise_map]; exact h1
  · constructor
    · intro hx
      obtain ⟨y, hy, rfl⟩ := List.mem_map.1 hx
      have := kept_mem cV zs zs.length (Nat.le_refl _) y hy
      rw [List.take_length] at this
      exact List.mem_map_of_mem (hp.mem_iff.1 this)
    · intro hx
      obtain ⟨y, hy, rfl⟩ := List.mem_map.1 hx
      obtain ⟨j, hj, rfl⟩ := List.getElem_of_mem (hp.mem_iff.2 hy)
      obtain ⟨z, hz, h0⟩ := h2 j hj hj
      have : z.f = zs[j].f := (cF_zero _ _).1 h0
      rw [← this]
      exact List.mem_map_of_mem hz
theorem kept_in (xs zs : List Fv) (hp : zs.Perm xs) : ∀ y ∈ kept cV zs zs.length, y ∈ xs := fun y hy => by
  have := kept_mem cV zs zs.length (Nat.le_refl _) y hy
  rw [List.take_length] at this
  exact hp.mem_iff.1 this

set_option maxHeartbeats 1000000 in
theorem ordered_at (a : Option Addr) (cap : Nat) (xs : List Fv) (w : World) (hl : Lies w a cap xs) (hx : ∀ x ∈ xs, Fv.At w x) : Calls Tryz.prog 62 #[.slice a xs.length cap] w
    fun e w' => ∃ a' c' ys, e = .returned (.slice a' ys.length c') ∧ OwF w' w.heap.size a' c' ys ∧ (∀ y ∈ ys, y ∈ xs) ∧ ys.map Fv.f = sortF (xs.map Fv.f) ∧ Below w.heap.size w w' := by
  have hown : w.ownsRow w.heap.size 37 4 (.slice none 0 0) ([] : List Fv).length (fcells []) := ⟨rfl, .inl ⟨rfl, rfl⟩⟩
  have few := hl.few
  have hS := fun (f : Value) (c : Nat) (p : Option Addr) (W : World) => sort_none p c f W
  have hK := fun (f : Value) (c : Nat) (p : Option Addr) (W : World) => compact_none p c f W
  go_enter Tryz.func62, Tryz.ntmps62
  go_wp2_with (at_builtin; refine wpList_append_fs w rfl _ _ rfl w.heap.size (.slice none 0 0) [] xs a cap rfl hown rfl hl (Nat.le_refl _) (by simpa using few) ?ap)
  case ap =>
    intro v' w1 ho hg
    have hb1 : Below w.heap.size w w1 := (Below.refl _ _).grown hg (Nat.le_refl _) (fun k hk => by cases hk)
    obtain ⟨a1, c1, rfl, hO⟩ := own_facts ho few
    clear ho hg hown
    by_cases h0 : xs = []
    · subst h0
      go_wp2_with fail
      refine (hS _ _ _ _).mono ?_; rintro e w2 ⟨rfl, rfl⟩
      go_wp2_with fail
      refine (hK _ _ _ _).mono ?_; rintro e w2 ⟨rfl, rfl⟩
      go_wp2_with fail
      go_ret
      exact ⟨a1, c1, [], rfl, hO, fun _ h => h, by rw [List.map_nil]; unfold sortF; rfl, hb1⟩
    · have hpos : 0 < xs.length := List.length_pos_iff.2 h0
      cases a1 with
      | none => exact absurd (hO.void rfl).1 h0
      | some ad =>
        obtain ⟨g, rfl, hg0, hg1, hrow⟩ := hO.row ad rfl
        have hsort := sort_at w w1 g c1 xs hx hb1 hg0 hrow hg1 (by omega)
        go_wp2_with fail
        refine hsort.mono ?_; rintro e w2 ⟨rfl, zs, hp, hs, hrow2, hbut⟩
        have hlen : zs.length = xs.length := hp.length_eq
        have hcp := compact_at w w2 g c1 zs (fun x hx' => hx x (hp.mem_iff.1 hx')) (hb1.trans (hbut.lower hg0 hb1.size)) hg0 hrow2 (Nat.lt_of_lt_of_le hg1 hbut.size) (by have := hO.room; omega) (by omega)
        rw [hlen] at hcp
        have e1 := hideP (kept_sortF xs zs hp hs)
        have e2 := hideP (kept_in xs zs hp)
        rw [hlen] at e1 e2
        have e3 : (kept cV zs xs.length).length ≤ xs.length := kept_len cV zs xs.length (by omega)
        generalize kept cV zs xs.length = ys at *
        have E3 := hideP e3; clear e3
        go_wp2_with fail
        refine hcp.mono ?_; rintro e w3 ⟨rfl, hrow3, hbut3⟩
        go_wp2_with fail
        go_ret
        have e3 := E3.out
        have hroom := hO.room
        refine ⟨some ⟨g, 0, none⟩, c1, ys, rfl, ⟨by omega, hO.most, by omega, (fun h => by cases h), fun ad ha => ?_⟩, e2.out, e1.out, hb1.trans ((hbut.trans hbut3).lower hg0 hb1.size)⟩
        cases ha
        exact ⟨g, rfl, hg0, Nat.lt_of_lt_of_le hg1 (hbut.trans hbut3).size, hrow3⟩

end Go.Proofs.YtpdmmmdkpipmkaaGreatDoor

/-
  Facts: what the reference's Order answers.
-/
namespace Go.Proofs.YtpdmmmdkpipmkaaGreatDoor
open Go.RowKit Go.Sort

/-- two facts' boxes: where their Args stand -/
theorem boxes_args (w : World) (o1 o2 : Array Value) (t : TypeId) (v1 v2 : Value) (h1 : o1[3]? = some v1) (h2 : o2[3]? = some v2) :
    ((w.alloc (.cells o1 t)).alloc (.cells o2 t)).cell? ⟨w.heap.size, 3, none⟩ = some v1 ∧ ((w.alloc (.cells o1 t)).alloc (.cells o2 t)).cell? ⟨w.heap.size + 1, 3, none⟩ = some v2 := by
  constructor
  · simp [h1]
  · simp [h2]

set_option maxHeartbeats 4000000 in
theorem reforder_at (x y : Fv) (w : World) (hx : Fv.At w x) (hy : Fv.At w y) : Calls Tryz.prog 32 #[x.val, y.val] w fun e w' => e = .returned (.int .i64 (cF x.f y.f)) ∧ Grew w w' := by
  have hS := fun (l m : List UInt8) (W : World) => texts_at l m W
  have hC := fun (p q : K) (W : World) => refcompare_at p q W
  have mixed : Tryz.prog.follows .mixedOrders = true := by kernel_rfl
  have eg : ∀ args w, (callFunc 58 args).run Tryz.prog w = .ok (.enter 58 args) w := enters_of Tryz.func58 (by kernel_rfl) rfl
  have hg2 : ∀ o o' : Obj, Grew w ((w.alloc o).alloc o') := fun o o' => ((Grew.refl w).allocs o).allocs o'
  have e1 := @cF_at x.f y.f; have e2 := @cF_by x.f y.f; have e3 := @cF_pred x.f y.f; have e4 := @cF_args x.f y.f
  generalize cF x.f y.f = r at *
  simp only [Fv.f] at e1 e2 e3 e4
  obtain ⟨x1, x2, x3, xa, xc, xk⟩ := x; obtain ⟨y1, y2, y3, ya, yc, yk⟩ := y
  have hx : ArgsAt w xa xc xk := hx
  have hy : ArgsAt w ya yc yk := hy
  simp only at e1 e2 e3 e4
  have E1 := hideP e1; have E2 := hideP e2; have E3 := hideP e3; have E4 := hideP e4; clear e1 e2 e3 e4
  by_cases h1 : x1 = y1
  rotate_left
  · have k1 : (x1 == y1) = false := by simp [h1]
    have z1 := E1.out (by rw [ne_eq, cT_zero]; exact h1)
    have Z1 := hideP z1; clear z1
    go_enter Tryz.func32, Tryz.ntmps32
    go_wp2_with (go_at_call 57; refine (hS x1 y1 _).mono ?_; rintro e w' ⟨rfl, rfl⟩)
    go_ret
    exact ⟨ret_int Z1.out.symm, hg2 _ _⟩
  have z0 : cT x1 y1 = 0 := (cT_zero _ _).2 h1
  subst h1
  by_cases h2 : x2 = y2
  rotate_left
  · have k1 : (x2 == y2) = false := by simp [h2]
    have z1 := E2.out z0 (by rw [ne_eq, cT_zero]; exact h2)
    have Z1 := hideP z1; clear z1
    go_enter Tryz.func32, Tryz.ntmps32
    go_wp2_with (go_at_call 57; refine (hS x2 y2 _).mono ?_; rintro e w' ⟨rfl, rfl⟩)
    go_ret
    exact ⟨ret_int Z1.out.symm, hg2 _ _⟩
  have z2 : cT x2 y2 = 0 := (cT_zero _ _).2 h2
  subst h2
  by_cases h3 : x3 = y3
  rotate_left
  · have k1 : (x3 == y3) = false := by simp [h3]
    have z1 := E3.out z0 z2 (by rw [ne_eq, cT_zero]; exact h3)
    have Z1 := hideP z1; clear z1
    go_enter Tryz.func32, Tryz.ntmps32
    go_wp2_with (go_at_call 57; refine (hS x3 y3 _).mono ?_; rintro e w' ⟨rfl, rfl⟩)
    go_ret
    exact ⟨ret_int Z1.out.symm, hg2 _ _⟩
  have z3 : cT x3 y3 = 0 := (cT_zero _ _).2 h3
  subst h3
  have Z := hideP (E4.out z0 z2 z3)
  clear E1 E2 E3 E4 z0 z2 z3 hS
  have b1 := hx.few; have b2 := hy.few
  go_enter Tryz.func32, Tryz.ntmps32
  go_wp2_with fail
  obtain ⟨w2, hw2⟩ : ∃ w2, w2 = (w.alloc (.cells #[str x1, str x2, str x3, .slice xa xk.length xc] 37)).alloc (.cells #[str x1, str x2, str x3, .slice ya yk.length yc] 37) := ⟨_, rfl⟩
  have G2 : Grew w w2 := by rw [hw2]; exact hg2 _ _
  obtain ⟨B1, B2⟩ := boxes_args w #[str x1, str x2, str x3, .slice xa xk.length xc] #[str x1, str x2, str x3, .slice ya yk.length yc] 37 _ _ rfl rfl
  rw [← hw2] at B1 B2 ⊢
  have hx2 := ArgsAt.below hx G2.below (Nat.le_refl _)
  have hy2 := ArgsAt.below hy G2.below (Nat.le_refl _)
  have hB1 := cell_block B1; have hB2 := cell_block B2
  clear hw2 hx hy hg2
  go_loopw [5, 6] (fun v _ wr => ∃ k : Nat, v = .int .i64 (k : Int) ∧ k ≤ xk.length ∧ k ≤ yk.length ∧ Hid (Even xk yk k) ∧ Grew w2 wr) (fun v _ _ => xk.length - (RowKit.intOf v).toNat)
  case atStart => exact ⟨0, rfl, by omega, by omega, fun j _ _ h => absurd h (by omega), Grew.refl _⟩
  case round =>
    obtain ⟨k, rfl, hk, hk', hev, hg⟩ := hrel
    have c1 := (hg.below.cell (p := ⟨w.heap.size, 3, none⟩) hB1).trans B1
    have c2 := (hg.below.cell (p := ⟨w.heap.size + 1, 3, none⟩) hB2).trans B2
    have n1 := cell_block c1; have n2 := cell_block c2
    by_cases hlt : k < xk.length
    · have q2 : (k : Int) < (xk.length : Int) := by omega
      by_cases hlt' : k < yk.length
      · have q4 : (k : Int) < (yk.length : Int) := by omega
        obtain ⟨P1, O1, rfl⟩ := hx2.addr (Nat.lt_of_le_of_lt (Nat.zero_le _) hlt)
        obtain ⟨P2, O2, rfl⟩ := hy2.addr (Nat.lt_of_le_of_lt (Nat.zero_le _) hlt')
        obtain ⟨a1, a2, a3⟩ := (hx2.below hg.below (Nat.le_refl _)).get k hlt
        obtain ⟨d1, d2, d3⟩ := (hy2.below hg.below (Nat.le_refl _)).get k hlt'
        have n3 := cell_block a1; have n4 := cell_block d1
        have hn := hC xk[k] yk[k]
        have hev' : Hid (cK xk[k] yk[k] = 0 → Even xk yk (k + 1)) := fun h j hjx hjy hj => by
          by_cases e : j = k
          · subst e; exact h
          · exact hev.out j hjx hjy (by omega)
        have hhit : Hid (cK xk[k] yk[k] ≠ 0 → cL cK xk yk = cK xk[k] yk[k]) := fun h => cL_hit cK xk yk k hlt hlt' (fun j hjx hjy hj => hev.out j hjx hjy hj) h
        generalize xk[k] = p at *
        generalize yk[k] = q at *
        have C1 := fun n os => cell_grown (cell_block c1) c1 n os
        have C2 := fun n os => cell_grown (cell_block c2) c2 n os
        have A1 := fun n os => cell_grown (cell_block a1) a1 n os
        have A2 := fun n os => cell_grown (cell_block a2) a2 n os
        have A3 := fun n os => cell_grown (cell_block a3) a3 n os
        have D1 := fun n os => cell_grown (cell_block d1) d1 n os
        have D2 := fun n os => cell_grown (cell_block d2) d2 n os
        have D3 := fun n os => cell_grown (cell_block d3) d3 n os
        clear hC
        by_cases hr : cK p q = 0
        · have hev'' := hideP (hev'.out hr)
          simp only [hr] at hn
          go_wp2_with fail
          go_quiet_grown (first | (go_at_fn 58; refine Calls.grown_of (hn _)))
          go_wp2_with fail
          exact ⟨⟨k + 1, by simp, by omega, by omega, hev'', hg.trans (Grew.grow _ _ _)⟩, by simp [RowKit.intOf]; omega⟩
        · have hhit' := hideP (hhit.out hr)
          generalize cK p q = r at hn hr hhit'
          go_wp2_with fail
          go_quiet_grown (first | (go_at_fn 58; refine Calls.grown_of (hn _)))
          go_wp2_with fail
          go_ret
          exact ⟨ret_int (by rw [Z.out, hhit'.out]), G2.trans (hg.trans (Grew.grow _ _ _))⟩
      · have q4 : ¬ (k : Int) < (yk.length : Int) := by omega
        have q5 : ¬ (xk.length : Int) < (yk.length : Int) := by omega
        have q6 : (yk.length : Int) < (xk.length : Int) := by omega
        go_wp2_with fail
        go_ret
        refine ⟨ret_int ?_, G2.trans hg⟩
        rw [Z.out, cL_long cK xk yk (by omega) fun j hjx hjy => hev.out j hjx hjy (by omega)]
    · have q2 : ¬ (k : Int) < (xk.length : Int) := by omega
      by_cases hlt' : xk.length < yk.length
      · have q3 : (xk.length : Int) < (yk.length : Int) := by omega
        go_wp2_with fail
        go_ret
        refine ⟨ret_int ?_, G2.trans hg⟩
        rw [Z.out, cL_short cK xk yk (by omega) fun j hjx hjy => hev.out j hjx hjy (by omega)]
      · have q3 : ¬ (xk.length : Int) < (yk.length : Int) := by omega
        have q4 : ¬ (yk.length : Int) < (xk.length : Int) := by omega
        go_wp2_with fail
        go_ret
        refine ⟨ret_int ?_, G2.trans hg⟩
        rw [Z.out, cL_even cK xk yk (by omega) fun j hjx hjy => hev.out j hjx hjy (by omega)]

end Go.Proofs.YtpdmmmdkpipmkaaGreatDoor

/-
  The reference's Like of facts.
-/
namespace Go.Proofs.YtpdmmmdkpipmkaaGreatDoor
open Go.RowKit Go.Sort

/-- are two lists of facts the same? -/
def likeB (l m : List F) : Bool := decide (cL cF l m = 0)
theorem likeB_iff (l m : List F) : likeB l m = true ↔ l = m := by
  unfold likeB; rw [decide_eq_true_eq, cL_zero cF_zero]
theorem likeB_self (l : List F) : likeB l l = true := (likeB_iff l l).2 rfl
theorem likeB_no {l m : List F} (h : l ≠ m) : likeB l m = false := by
  rw [Bool.eq_false_iff]; exact fun h' => h ((likeB_iff l m).1 h')

set_option maxHeartbeats 2000000 in
theorem like_at (a a' : Option Addr) (c c' : Nat) (xs ys : List Fv) (w : World) (hx : Lies w a c xs) (hy : Lies w a' c' ys) (ax : ∀ x ∈ xs, Fv.At w x) (ay : ∀ y ∈ ys, Fv.At w y) :
    Calls Tryz.prog 18 #[.slice a xs.length c, .slice a' ys.length c'] w fun e w' => e = .returned (.bool (likeB (xs.map Fv.f) (ys.map Fv.f))) ∧ Grew w w' := by
  have mixed : Tryz.prog.follows .mixedOrders = true := by kernel_rfl
  have hC := fun (p q : Fv) (W : World) (hp : Fv.At W p) (hq : Fv.At W q) => reforder_at p q W hp hq
  have b1 := hx.few; have b2 := hy.few
  by_cases hl : xs.length = ys.length
  rotate_left
  · have q0 : ((xs.length : Int) != (ys.length : Int)) = true := by simp; omega
    have hno : likeB (xs.map Fv.f) (ys.map Fv.f) = false := likeB_no fun h => hl (by have := congrArg List.length h; simpa using this)
    rw [hno]
    go_enter Tryz.func18, Tryz.ntmps18
    go_wp2_with fail
    go_ret
    exact ⟨rfl, Grew.refl _⟩
  · have q0 : ((xs.length : Int) != (ys.length : Int)) = false := by simp; omega
    have Hl := hideP hl; clear hl
    go_enter Tryz.func18, Tryz.ntmps18
    go_wp2_with fail
    go_loopw [5] (fun v wr => ∃ k : Nat, v = .int .i64 (k : Int) ∧ k ≤ xs.length ∧ Hid (∀ j (h1 : j < xs.length) (h2 : j < ys.length), j < k → xs[j].f = ys[j].f) ∧ Grew w wr) (fun v _ => xs.length - (RowKit.intOf v).toNat)
    case atStart => exact ⟨0, rfl, by omega, fun j _ _ h => absurd h (by omega), Grew.refl _⟩
    case round =>
      obtain ⟨k, rfl, hk, hev, hg⟩ := hrel
      by_cases hlt : k < xs.length
      · have q2 : (k : Int) < (xs.length : Int) := by omega
        have hlt' : k < ys.length := by have := Hl.out; omega
        have q3 : (k : Int) < (ys.length : Int) := by omega
        obtain ⟨P1, O1, rfl⟩ := hx.addr (Nat.lt_of_le_of_lt (Nat.zero_le _) hlt)
        obtain ⟨P2, O2, rfl⟩ := hy.addr (Nat.lt_of_le_of_lt (Nat.zero_le _) hlt')
        obtain ⟨a1, a2, a3, a4⟩ := (hx.below hg.below (Nat.le_refl _)).get k hlt
        obtain ⟨d1, d2, d3, d4⟩ := (hy.below hg.below (Nat.le_refl _)).get k hlt'
        have hn := fun n os => hC (xs[k]'hlt) (ys[k]'hlt') (grow (wr.drewN n) os) ((ax _ (List.getElem_mem hlt)).grew (hg.trans (Grew.grow _ _ _))) ((ay _ (List.getElem_mem hlt')).grew (hg.trans (Grew.grow _ _ _)))
        have hev' : Hid (cF (xs[k]'hlt).f (ys[k]'hlt').f = 0 → ∀ j (h1 : j < xs.length) (h2 : j < ys.length), j < k + 1 → xs[j].f = ys[j].f) := fun h j h1 h2 hj => by
          by_cases e : j = k
          · subst e; exact (cF_zero _ _).1 h
          · exact hev.out j h1 h2 (by omega)
        have hno : Hid (cF (xs[k]'hlt).f (ys[k]'hlt').f ≠ 0 → likeB (xs.map Fv.f) (ys.map Fv.f) = false) := fun h => likeB_no fun he => h (by
          rw [cF_zero]
          have h1 : (xs.map Fv.f)[k]'(by simpa using hlt) = (ys.map Fv.f)[k]'(by simpa using hlt') := by simp only [he]
          simpa using h1)
        generalize (xs[k]'hlt) = p at *
        generalize (ys[k]'hlt') = q at *
        have A1 := fun n os => cell_grown (cell_block a1) a1 n os
        have A2 := fun n os => cell_grown (cell_block a2) a2 n os
        have A3 := fun n os => cell_grown (cell_block a3) a3 n os
        have A4 := fun n os => cell_grown (cell_block a4) a4 n os
        have D1 := fun n os => cell_grown (cell_block d1) d1 n os
        have D2 := fun n os => cell_grown (cell_block d2) d2 n os
        have D3 := fun n os => cell_grown (cell_block d3) d3 n os
        have D4 := fun n os => cell_grown (cell_block d4) d4 n os
        clear hC a1 a2 a3 a4 d1 d2 d3 d4 ax ay
        by_cases hr : cF p.f q.f = 0
        · have hev'' := hideP (hev'.out hr)
          simp only [hr] at hn
          go_wp2_with fail
          go_quiet_grown (first | (go_at_call 32; refine Calls.grown_of (hn _ _)))
          go_wp2_with fail
          exact ⟨⟨k + 1, by simp, by omega, hev'', hg.trans (Grew.grow _ _ _)⟩, by simp [RowKit.intOf]; omega⟩
        · have hno' := hideP (hno.out hr)
          generalize cF p.f q.f = r at hn hr
          go_wp2_with fail
          go_quiet_grown (first | (go_at_call 32; refine Calls.grown_of (hn _ _)))
          go_wp2_with fail
          go_ret
          exact ⟨ret_bool hno'.out.symm, hg.trans (Grew.grow _ _ _)⟩
      · have q2 : ¬ (k : Int) < (xs.length : Int) := by omega
        have hyes : Hid (likeB (xs.map Fv.f) (ys.map Fv.f) = true) := (likeB_iff _ _).2 (List.ext_getElem (by simpa using Hl.out) fun j h1 h2 => by
          simp only [List.getElem_map]
          exact hev.out j (by simpa using h1) (by simpa using h2) (by simp at h1; omega))
        go_wp2_with fail
        go_ret
        exact ⟨ret_bool hyes.out.symm, hg⟩


end Go.Proofs.YtpdmmmdkpipmkaaGreatDoor

/-
  The reference's weight of facts: where it is within 200 there are at most 200 facts.
-/
namespace Go.Proofs.YtpdmmmdkpipmkaaGreatDoor
open Go.RowKit Go.Sort

/-- texts within reach -/
structure TxF (x : Fv) : Prop where
  a : x.at_.length ≤ 140737488351232
  b : x.by_.length ≤ 140737488351232
  c : x.pred.length ≤ 140737488351232
  d : ∀ k ∈ x.ks, k.s.length ≤ 140737488351232

set_option maxHeartbeats 4000000 in
theorem weight_few4 (a : Option Addr) (c : Nat) (xs : List Fv) (w : World) (hx : Lies w a c xs) (ax : ∀ x ∈ xs, Fv.At w x) (tx : ∀ x ∈ xs, TxF x) :
    Calls Tryz.prog 15 #[.slice a xs.length c, .int .i64 200] w fun e w' => (∃ r : Int, e = .returned (.int .i64 r) ∧ (¬ 200 < r → xs.length ≤ 200)) ∧ Grew w w' := by
  have mixed : Tryz.prog.follows .mixedOrders = true := by kernel_rfl
  have b1 := hx.few
  go_enter Tryz.func15, Tryz.ntmps15
  go_wp2_with fail
  go_loopw [5, 6, 7] (fun v5 v6 _ wr => ∃ (k : Nat) (n : Int), v5 = .int .i64 n ∧ v6 = .int .i64 (k : Int) ∧ k ≤ xs.length ∧ (k : Int) ≤ n ∧ n ≤ 4611686018427387904 ∧ Grew w wr) (fun _ v6 _ _ => xs.length - (RowKit.intOf v6).toNat)
  case atStart => exact ⟨0, 0, rfl, rfl, by omega, by omega, by omega, Grew.refl _⟩
  case round =>
    obtain ⟨k, n, rfl, rfl, hk, hkn, hnt, hg⟩ := hrel
    by_cases hlt : k < xs.length
    · have q2 : (k : Int) < (xs.length : Int) := by omega
      by_cases hn : n ≤ 200
      · obtain ⟨P1, O1, rfl⟩ := hx.addr (Nat.lt_of_le_of_lt (Nat.zero_le _) hlt)
        have hx' := hx.below hg.below (Nat.le_refl _)
        obtain ⟨a1, a2, a3, a4⟩ := hx'.get k hlt
        have hA := (ax _ (List.getElem_mem hlt)).grew hg
        have hT := tx _ (List.getElem_mem hlt)
        have hfew := ArgsAt.few hA
        generalize (xs[k]'hlt) = p at *
        obtain ⟨t1, t2, t3, t4⟩ := hT
        go_wp2_with fail
        go_quiet (fail)
        go_wp2_with fail
        have hg2 := hg.trans (Grew.drewN wr nq)
        have b2 := (Grew.drewN wr nq).below
        have e4 := (b2.cell (p := ⟨P1, O1 + k * 4 + 3, none⟩) (cell_block a4)).trans a4
        have hA2 := hA.grew (Grew.drewN wr nq)
        generalize wr.drewN nq = w2 at *
        clear a1 a2 a3 a4 b2 hA hx' hg
        go_loopw [5, 7] (fun v5 v7 wi => ∃ (j : Nat) (n : Int), v5 = .int .i64 n ∧ v7 = .int .i64 (j : Int) ∧ j ≤ p.ks.length ∧ (k : Int) + 1 ≤ n ∧ n ≤ 4611686018427387904 ∧ Grew w2 wi) (fun _ v7 _ => p.ks.length - (RowKit.intOf v7).toNat)
        case atStart => exact ⟨0, _, rfl, rfl, by omega, by omega, by omega, Grew.refl _⟩
        case round =>
          obtain ⟨j, n', rfl, rfl, hj, hn1, hn2, hgi⟩ := hrel
          have c4 := (hgi.below.cell (p := ⟨P1, O1 + k * 4 + 3, none⟩) (cell_block e4)).trans e4
          by_cases hjl : j < p.ks.length
          · have q3 : (j : Int) < (p.ks.length : Int) := by omega
            by_cases hn' : n' ≤ 200
            · obtain ⟨P2, O2, hP2⟩ := ArgsAt.addr hA2 (Nat.lt_of_le_of_lt (Nat.zero_le _) hjl)
              have hA3 := hA2.grew hgi
              rw [Fv.At, hP2] at hA3
              rw [hP2] at c4
              obtain ⟨m1, m2, m3⟩ := hA3.get j hjl
              have t5 := t4 _ (List.getElem_mem hjl)
              go_wp2_with fail
              exact ⟨⟨j + 1, _, rfl, by simp, by omega, by omega, by omega, hgi⟩, by simp [RowKit.intOf]; omega⟩
            · go_wp2_with fail
              exact ⟨⟨k + 1, n', rfl, by simp, by omega, by omega, by omega, hg2.trans hgi⟩, by simp [RowKit.intOf]; omega⟩
          · have q3 : ¬ (j : Int) < (p.ks.length : Int) := by omega
            go_wp2_with fail
            exact ⟨⟨k + 1, n', rfl, by simp, by omega, by omega, by omega, hg2.trans hgi⟩, by simp [RowKit.intOf]; omega⟩
      · go_wp2_with fail
        go_ret
        exact ⟨⟨n, rfl, fun h => by omega⟩, hg⟩
    · have q2 : ¬ (k : Int) < (xs.length : Int) := by omega
      go_wp2_with fail
      go_ret
      exact ⟨⟨n, rfl, fun h => by omega⟩, hg⟩
end Go.Proofs.YtpdmmmdkpipmkaaGreatDoor
