/-
  The mathematics of layer 12: what follows is within the bounds of what it follows from. No program in this text.
-/
import Derived.Test.YtdehimbfcilhpaaGreatDoorQTh1
import Derived.Test.YtdehimbfcilhpaaGreatDoorQAq12
import Derived.Test.YtdehimbfcilhpaaGreatDoorQSorted
namespace Go.Proofs.YtdehimbfcilhpaaGreatDoor
open Mt (Tx Env uni lit lits head nm val vals name fact place)

/-- a rule's head within bounds -/
structure SmH (r : Ru) : Prop where
  home : OkK r.home.k
  to_ : OkK r.to_.k
  args : ∀ t ∈ r.args, OkK t.k
theorem val_ok {t : Tm} {e : Env} {c : K} (ht : OkK t.k) (he : ∀ b ∈ e, OkK b.2) (h : val t e = some c) : OkK c := by
  unfold Mt.val at h
  split at h
  · cases h
  · split at h
    · cases h; exact ht
    · exact he _ (Ml.get_mem h)
theorem lits_ok {home : Tm} : ∀ {ls : List Lt} {fs : List F} {e e2 : Env}, (∀ b ∈ e, OkK b.2) → (∀ f ∈ fs, SmF f) → lits home ls fs e = some e2 → ∀ b ∈ e2, OkK b.2
  | [], [], _, _, he, _, h => by rw [lits] at h; cases h; exact he
  | l :: ls, f :: fs, e, e2, he, hf, h => by
    rw [lits] at h
    obtain ⟨e1, h1, h2⟩ := Option.bind_eq_some_iff.1 h
    have sf := hf f (List.mem_cons_self ..)
    exact lits_ok (Ml.lit_vals (P := OkK) he sf.nmAt sf.nmBy sf.ks h1) (fun x hx => hf x (List.mem_cons_of_mem _ hx)) h2
  | [], _ :: _, _, _, _, _, h => by cases h
  | _ :: _, [], _, _, _, _, h => by cases h
theorem vals_ok {e : Env} (he : ∀ b ∈ e, OkK b.2) : ∀ {ts : List Tm} {cs : List K}, (∀ t ∈ ts, OkK t.k) → vals e ts = some cs → ∀ c ∈ cs, OkK c
  | [], cs, _, h => by rw [vals] at h; cases h; exact fun _ h => by cases h
  | t :: ts, cs, ht, h => by
    rw [vals] at h
    obtain ⟨c, h1, h⟩ := Option.bind_eq_some_iff.1 h
    obtain ⟨cs', h2, rfl⟩ := Option.map_eq_some_iff.1 h
    intro x hx
    rcases List.mem_cons.1 hx with rfl | hx
    · exact val_ok (ht t (List.mem_cons_self ..)) he h1
    · exact vals_ok he (fun t' h' => ht t' (List.mem_cons_of_mem _ h')) h2 x hx
theorem name_ok {t : Tm} {e : Env} {s : Tx} (ht : OkK t.k) (he : ∀ b ∈ e, OkK b.2) (h : name t e = some s) : s.length ≤ 1048576 := by
  unfold name at h
  obtain ⟨c, h1, h⟩ := Option.bind_eq_some_iff.1 h
  split at h
  · cases h; exact (val_ok ht he h1).2.2
  · cases h
theorem head_ok {r : Ru} {e : Env} {f : F} (hr : SmH r) (he : ∀ b ∈ e, OkK b.2) (h : head r e = some f) : SmF f := by
  unfold head fact at h
  obtain ⟨a, h1, h⟩ := Option.bind_eq_some_iff.1 h
  obtain ⟨b, h2, h⟩ := Option.bind_eq_some_iff.1 h
  obtain ⟨ks, h3, rfl⟩ := Option.map_eq_some_iff.1 h
  refine ⟨name_ok ?_ he h1, name_ok hr.home he h2, vals_ok he hr.args h3⟩
  unfold place
  split
  · exact hr.home
  · exact hr.to_
/-- what follows at once -/
theorem ins_ok {w : Ml.Wd} {l : List Ru} {m : List F} {f : F} (hl : ∀ r ∈ l, SmH r) (hh : ∀ h ∈ w.homes, h.length ≤ 1048576) (hm : ∀ x ∈ m, SmF x) (h : Ml.Ins w l m f) : SmF f := by
  obtain ⟨r, hr, x, hx, e, hu, fs, h1, e2, h2, h3, _⟩ := h
  have he := Ml.uni_vals (P := OkK) (fun _ h => by cases h) (c := nm x) ⟨by show (-9223372036854775808 : Int) ≤ 0; omega, by show (0 : Int) ≤ 9223372036854775807; omega, hh x hx⟩ hu
  exact head_ok (hl r hr) (lits_ok he (fun g hg => hm g (h1 g hg)) h2) h3
theorem step_ok {w : Ml.Wd} {l : List Ru} {m : List F} (hs : SS m) (hl : ∀ r ∈ l, SmH r) (hh : ∀ h ∈ w.homes, h.length ≤ 1048576) (hm : ∀ x ∈ m, SmF x) : ∀ x ∈ Ml.step w l m, SmF x := fun x hx => by
  rcases (Ml.mem_step hs).1 hx with h | h
  · exact hm x h
  · exact ins_ok hl hh hm h
end Go.Proofs.YtdehimbfcilhpaaGreatDoor

/-
  slices.AppendSeq and Collect over atOnce's iterator.
-/
namespace Go.Proofs.YtdehimbfcilhpaaGreatDoor
open Go.RowKit Go.Lib Go.Shelf
attribute [local go_sem] Oper.semAt_some

/-- between two rounds: what came lies in a row of the call's own, its box at b -/
structure ApI (w : World) (b : Nat) (w0 : Ml.Wd) (l : List Ru) (m : List F) (pre : List F) (W : World) : Prop where
  row : ∃ ys a c, W.heap[b]? = some (.cells #[.slice a (List.length ys) c] 24) ∧ W.ownsRow w.heap.size 36 4 (.slice a (List.length ys) c) (List.length ys) (fcells ys) ∧ EachK W ys ∧ ys.length ≤ 1954687338211 ∧ ys.map Fv.f = pre
  below : Below w.heap.size w W
theorem ApI.itr {w : World} {b C : Nat} {w0 : Ml.Wd} {l : List Ru} {m pre : List F} {W W' : World} (h : ApI w b w0 l m pre W) (hi : Itr 166 C W W') (hC : w.heap.size ≤ C) : ApI w b w0 l m pre W' := by
  obtain ⟨ys, a, c, h1, h2, h3, h5, h4⟩ := h.row
  exact ⟨⟨ys, a, c, hi.same _ _ _ _ h1 (by decide), ownsRow_itr h2 hi (by decide), h3.safe (hi.safe (by decide)), h5, h4⟩, h.below.trans (hi.toBelow.mono hC)⟩

set_option maxRecDepth 100000 in
set_option maxHeartbeats 2000000 in
theorem appendSeq_at (w0 : World) (b1 b2 b3 : Nat) (ra : Option Addr) (rc : Nat) (rs : List Rv) (ha : Option Addr) (hc : Nat) (hs : List (List UInt8)) (na : Option Addr) (nc : Nat) (ns : List (List UInt8)) (fa : Option Addr) (fc : Nat) (zs : List Fv) (w : World)
    (hi : AIn w0 ra rc rs ha hc hs na nc ns fa fc zs) (hcap : ACap b1 b2 b3 ra rc rs ha hc hs na nc ns fa fc zs w) (hb : Below w0.heap.size w0 w) (hN : rs.length * hs.length ≤ 1000000) :
    Calls Tryz.prog 58 #[.slice none 0 0, .func (.func 59) #[] #[ptr b1, ptr b2, ptr b3]] w fun e w' => (∃ ys a c, e = .returned (.slice a (List.length ys) c) ∧ OwF w' w.heap.size a c ys ∧ EachK w' ys ∧ ∀ x, x ∈ ys.map Fv.f ↔ x ∈ Ml.onceL ⟨hs, ns⟩ (rs.map Rv.r) (zs.map Fv.f)) ∧ Below w.heap.size w w' := by
  have iF : (Tryz.prog.info? 36).map (·.size) = some 4 := by kernel_rfl
  have A1 := below_alloc w (.cells #[.slice none 0 0] 24)
  have N1 := heap_alloc_new w (.cells #[.slice none 0 0] 24)
  have S1 : (w.alloc (.cells #[.slice none 0 0] 24)).heap.size = w.heap.size + 1 := by simp
  have I0 : ApI w w.heap.size ⟨hs, ns⟩ (rs.map Rv.r) (zs.map Fv.f) [] (w.alloc (.cells #[.slice none 0 0] 24)) := ⟨⟨[], none, 0, N1, World.ownsRow_nil _ _ _ _, (fun _ h => by cases h), by simp, rfl⟩, A1⟩
  have CAP : ACap b1 b2 b3 ra rc rs ha hc hs na nc ns fa fc zs (w.alloc (.cells #[.slice none 0 0] 24)) := ⟨below_heap A1 hcap.rules, below_heap A1 hcap.world, below_heap A1 hcap.facts⟩
  have n1 := heap_lt hcap.rules
  have n2 := heap_lt hcap.world
  have n3 := heap_lt hcap.facts
  have hlow := hb.size
  have BW := hb.trans (A1.mono hlow)
  have hN0 := hideP hN
  have HI := hideP hi
  have HC := hideP CAP
  clear hi hcap CAP hb N1 hN
  refine calls_marks Tryz.func58 rfl ?_
  simp only [Tryz.ntmps58, List.size_toArray, List.length_cons, List.length_nil, Nat.reduceAdd, Nat.reduceSub, Array.replicate_succ, Array.replicate_zero, List.push_toArray, List.append_toArray, List.nil_append, List.cons_append]
  go_wp2_with fail
  generalize w.alloc (.cells #[.slice none 0 0] 24) = w1 at *
  refine wp_range (pt := 166) (gf := 59) (lb := #[ptr b1, ptr b2, ptr b3]) rfl (enters_of Tryz.func59 (by kernel_rfl) rfl)
    (Elt := EltO ⟨hs, ns⟩ (rs.map Rv.r) (zs.map Fv.f)) (Kp := fun l2 => Rnd w0.heap.size fun k => (k = w.heap.size) ∨ (k = l2 ∧ w0.heap.size ≤ l2)) (S := fun fs => ∀ x, x ∈ fs ↔ x ∈ Ml.onceL ⟨hs, ns⟩ (rs.map Rv.r) (zs.map Fv.f)) (Sp := fun _ => True) (N := rs.length * hs.length * 60001)
    ?seq (fun h k => h.trans k) (fun l2 W5 o o' h1 _ _ => Rnd.but (but_putObj W5 l2 o') (.inr ⟨rfl, by omega⟩)) rfl
    (ApI w w.heap.size ⟨hs, ns⟩ (rs.map Rv.r) (zs.map Fv.f)) (fun _ _ _ => False)
    (fun s A A' h hit => h.itr hit A1.size)
    (fun c s A A' h hit => h)
    I0
    (fun f a' W5 => ∃ (z : Fv) (S : Nat), W5.heap[S]? = some (.cells (fv z).toArray 36) ∧ z.f = f ∧ RowT kK 56 W5 z.a z.cap z.ks ∧ a' = { tmps := #[.slice none 0 0, .func (.func 59) #[] #[ptr b1, ptr b2, ptr b3], ptr w.heap.size, undef, .slice none 0 0, ptr S, .func (.func 59) #[] #[ptr b1, ptr b2, ptr b3], z.val, undef, undef, undef, undef, undef], defers := [] })
    (fun f a' A A' h hit => by
      obtain ⟨z, S, h1, h2, h3, h4⟩ := h
      exact ⟨z, S, hit.same _ _ _ _ h1 (by decide), h2, h3.safe (hit.safe (by decide)), h4⟩)
    ?assign ?body ?done ?stop
  case seq =>
    intro W1 hb1 hs1
    exact once_seq (X := fun k => k = w.heap.size) HI.out ⟨below_heap hb1 HC.out.rules, below_heap hb1 HC.out.world, below_heap hb1 HC.out.facts⟩ (fun k hk => ⟨by omega, by omega⟩) ⟨by omega, by omega, by omega⟩ (BW.trans (hb1.mono BW.size))
  case assign =>
    rintro l2 pre f _ W5 K hl5 hlt5 HI5 ⟨⟨z, rfl, hzf, RZ⟩, MEM⟩ hK
    have N5 := heap_alloc_new W5 (.cells #[.string { data := #[] }, .string { data := #[] }, .string { data := #[] }, .slice none 0 0] 36)
    refine round_region (by rintro ⟨_, _, h⟩; exact h) rfl ?_
    go_wp2_with (refine wpList_store_all rfl 36 _ _ rfl W5.heap.size 4 _ 36 (fv z) rfl rfl N5 rfl rfl iF rfl ?_; intro w6 N6 d6; have B6 := below_tok d6)
    exact hK _ _ (keeps_below B6) (Rnd.of_below B6) (HI5.itr (Itr.below B6 (Nat.le_refl _)) HI5.below.size) ⟨z, _, N6, hzf, RZ.safe (Safe.below B6), rfl⟩
  case body =>
    rintro l2 pre f _ W5 hl5 hlt5 HI5 ⟨z, S, N5, rfl, RZ, rfl⟩ hN
    obtain ⟨ys, a, c, hbx, hO, hE, _, hF⟩ := HI5.row
    have BB := HI5.below
    have cb : W5.cell? ⟨w.heap.size, 0, none⟩ = some (.slice a (List.length ys) c) := by rw [heap_cell hbx]; rfl
    have A6 := below_alloc W5 (.cells (fv z).toArray 36)
    have L6 : Lies (W5.alloc (.cells (fv z).toArray 36)) (some ⟨W5.heap.size, 0, none⟩) 1 [z] := lies_new W5 (fv z).toArray _ [z] (by simp [fcells]) (by simp)
    have O6 := ownsRow_keep hO (Safe.below A6 : Safe 36 _ _)
    have hx6 := below_heap A6 hbx
    have fits : ys.length + [z].length ≤ 1954687338211 := by
      have h1 : ys.length = pre.length := by rw [← hF, List.length_map]
      have h2 : rs.length * hs.length * 60001 ≤ 1000000 * 60001 := Nat.mul_le_mul_right _ hN0.out
      simp only [List.length_cons, List.length_nil]
      omega
    have hbs : w.heap.size ≤ (W5.alloc (.cells (fv z).toArray 36)).heap.size := Nat.le_trans BB.size A6.size
    have HF := hideP hF
    have RZ6 := RZ.safe (Safe.below A6 : Safe 56 _ _)
    have E6 := hE.safe (Safe.below A6 : Safe 56 _ _)
    clear hF HI5 hN RZ hE
    refine wpIn_block ?_
    refine round_region (by rintro ⟨_, _, h⟩; exact h) rfl ?_
    go_wp2_with (first
      | (refine wpList_load_all rfl 36 _ rfl S 4 36 (fv z) _ rfl N5 rfl Tryz.underlying36 rfl iF ?_)
      | (refine wpList_build_one rfl 24 36 _ rfl (fv z) _ 4 72 rfl rfl (by decide) (by decide) Tryz.underlying24 Tryz.infoF ?_)
      | (at_builtin; refine wpList_append_fs _ rfl _ _ rfl w.heap.size (.slice a (List.length ys) c) ys [z] (some ⟨W5.heap.size, 0, none⟩) 1 rfl O6 rfl L6 hbs fits ?_; intro v8 w8 o8 g8; have R8 := grown_rnd (n0 := w0.heap.size) (X := fun k => (k = w.heap.size) ∨ (k = l2 ∧ w0.heap.size ≤ l2)) O6 g8 hlow; have S8 := grown_safe (ty := 56) O6 g8 (by decide); have h8 := grown_safe (ty := 24) O6 g8 (by decide) _ _ hx6; have bw8 := own_below O6 g8 hbs; obtain ⟨a8, c8, rfl, OF8⟩ := own_facts o8 (by rw [List.length_append]; exact fits))
      | (refine wpList_store_cel rfl 24 _ _ rfl w.heap.size 0 1 24 (.slice a8 (ys ++ [z]).length c8) #[.slice a8 (ys ++ [z]).length c8] rfl rfl h8 rfl (by decide) (by kernel_rfl) rfl rfl ?_; intro w9 N9 t9))
    have R9 : Rnd w0.heap.size (fun k => k = w.heap.size) W5 w9 := (Rnd.of_below A6).trans ((grown_rnd O6 g8 hlow).trans (Rnd.but t9 rfl))
    have s9 : ∀ ty : TypeId, ty ≠ 24 → Safe ty w8 w9 := fun ty hn => t9.safeT h8 hn
    exact ⟨R9.keeps (fun k hk => by omega), R9.mono (fun k hk => .inl hk), ⟨ys ++ [z], a8, c8, N9, ownsRow_keep o8 (s9 _ (by decide)), (fun y hy => by
      rcases List.mem_append.1 hy with hy | hy
      · exact ((E6 y hy).safe S8).safe (s9 _ (by decide))
      · rw [List.mem_singleton] at hy; subst hy; exact (RZ6.safe S8).safe (s9 _ (by decide))), by rw [List.length_append]; exact fits, by rw [List.map_append, HF.out]; rfl⟩, ((BB.trans (A6.mono BB.size)).trans bw8).trans (t9.lower (Nat.le_refl _) (by have := bw8.size; omega))⟩
  case done =>
    rintro D fs W7 hD7 hS7 HI7 hK7
    obtain ⟨ys, a, c, hbx, hO, hE, fits, hF⟩ := HI7.row
    have cb : W7.cell? ⟨w.heap.size, 0, none⟩ = some (.slice a (List.length ys) c) := by rw [heap_cell hbx]; rfl
    have MK : Marks w1.heap.size [D] W7 := ⟨fun D' h => (by rw [List.mem_singleton] at h; subst h; exact hK7), (by simp), fun D' h => (by rw [List.mem_singleton] at h; subst h; exact hD7)⟩
    have IT : Itr 166 w1.heap.size W7 (shut [D] W7) := shut_itr [D] W7 MK.open_ MK.nodup MK.low
    have O9 := ownsRow_itr hO IT (by decide)
    have E9 := hE.safe (IT.safe (by decide))
    have B9 : Below w.heap.size w (shut [D] W7) := HI7.below.trans (IT.toBelow.mono (by omega))
    have HF := hideP hF
    have HS := hideP hS7
    have HL := hideP hN0.out
    obtain ⟨a2, c2, e2, OF⟩ := own_facts O9 fits
    cases e2
    clear hF hS7 HI7 hO hE
    go_wp2_with fail
    exact leaves_marks [D] W7 MK.open_ MK.nodup ⟨_, results_tmp rfl _ _ _, ⟨ys, a, c, rfl, OF, E9, fun x => by rw [HF.out]; exact HS.out x⟩, B9⟩
  case stop =>
    rintro D c pre W7 hD7 _ h _
    exact h.elim
end Go.Proofs.YtdehimbfcilhpaaGreatDoor

/-
  slices.Collect, model.Once.
-/
namespace Go.Proofs.YtdehimbfcilhpaaGreatDoor
open Go.RowKit Go.Lib Go.Shelf

abbrev wdv (ha : Option Addr) (hc : Nat) (hs : List (List UInt8)) (na : Option Addr) (nc : Nat) (ns : List (List UInt8)) : Value := .agg #[.slice ha hs.length hc, .slice na ns.length nc]

set_option maxRecDepth 100000 in
theorem collect_at (w0 : World) (b1 b2 b3 : Nat) (ra : Option Addr) (rc : Nat) (rs : List Rv) (ha : Option Addr) (hc : Nat) (hs : List (List UInt8)) (na : Option Addr) (nc : Nat) (ns : List (List UInt8)) (fa : Option Addr) (fc : Nat) (zs : List Fv) (w : World)
    (hi : AIn w0 ra rc rs ha hc hs na nc ns fa fc zs) (hcap : ACap b1 b2 b3 ra rc rs ha hc hs na nc ns fa fc zs w) (hb : Below w0.heap.size w0 w) (hN : rs.length * hs.length ≤ 1000000) :
    Calls Tryz.prog 32 #[.func (.func 59) #[] #[ptr b1, ptr b2, ptr b3]] w fun e w' => (∃ ys a c, e = .returned (.slice a (List.length ys) c) ∧ OwF w' w.heap.size a c ys ∧ EachK w' ys ∧ ∀ x, x ∈ ys.map Fv.f ↔ x ∈ Ml.onceL ⟨hs, ns⟩ (rs.map Rv.r) (zs.map Fv.f)) ∧ Below w.heap.size w w' := by
  have T := hideP (appendSeq_at w0 b1 b2 b3 ra rc rs ha hc hs na nc ns fa fc zs w hi hcap hb hN)
  clear hi hcap hb hN
  go_enter Tryz.func32, Tryz.ntmps32
  go_wp2_with fail
  refine T.out.mono ?_
  rintro e w1 ⟨⟨ys, a, c, rfl, h1, h2, h3⟩, h4⟩
  have H3 := hideP h3
  clear h3 T
  go_wp2_with fail
  go_ret
  exact ⟨⟨ys, a, c, rfl, h1, h2, H3.out⟩, h4⟩

set_option maxRecDepth 100000 in
set_option maxHeartbeats 1000000 in
theorem monce_at (ra : Option Addr) (rc : Nat) (rs : List Rv) (ha : Option Addr) (hc : Nat) (hs : List (List UInt8)) (na : Option Addr) (nc : Nat) (ns : List (List UInt8)) (fa : Option Addr) (fc : Nat) (zs : List Fv) (w : World)
    (hi : AIn w ra rc rs ha hc hs na nc ns fa fc zs) (hN : rs.length * hs.length ≤ 1000000) :
    Calls Tryz.prog 15 #[wdv ha hc hs na nc ns, .slice ra rs.length rc, .slice fa zs.length fc] w fun e w' => (∃ ys a c, e = .returned (.slice a (List.length ys) c) ∧ OwF w' w.heap.size a c ys ∧ (∀ y ∈ ys, Fv.At w' y) ∧ ys.map Fv.f = Ml.once ⟨hs, ns⟩ (rs.map Rv.r) (zs.map Fv.f)) ∧ Below w.heap.size w w' := by
  have A1 := below_alloc w (.cells #[.slice ha hs.length hc, .slice na ns.length nc] 41)
  have T1 := hideP (atOnce_at ra rc rs ha hc hs na nc ns fa fc zs (w.alloc (.cells #[.slice ha hs.length hc, .slice na ns.length nc] 41)))
  have T2 := hideP (fun (W : World) b1 b2 b3 (hcap : ACap b1 b2 b3 ra rc rs ha hc hs na nc ns fa fc zs W) hb => collect_at w b1 b2 b3 ra rc rs ha hc hs na nc ns fa fc zs W hi hcap hb hN)
  clear hi hN
  go_enter Tryz.func15, Tryz.ntmps15
  go_wp2_with fail
  refine T1.out.mono ?_
  rintro e w2 ⟨rfl, B2, S2, C2⟩
  have B12 := Below.then A1 B2
  simp only [World.size_alloc] at C2
  go_wp2_with fail
  refine (T2.out w2 _ _ _ C2 B12).mono ?_
  rintro e w3 ⟨⟨ys, a, c, rfl, OF, EK, H3⟩, B3⟩
  have B13 := Below.then B12 B3
  have T3 := hideP (sorted_at a c ys w3 OF.lies (fun y hy => row_args (EK y hy).row))
  have HM := hideP H3
  clear H3 T1 T2 C2
  go_wp2_with fail
  refine T3.out.mono ?_
  rintro e w4 ⟨a4, c4, us, rfl, OF4, EA4, hs4, B4⟩
  have HS := hideP hs4
  clear hs4
  go_wp2_with fail
  go_ret
  refine ⟨⟨us, a4, c4, rfl, OF4.lower B13.size, fun y hy => (EA4 y hy).1, ?_⟩, Below.then B13 B4⟩
  rw [HS.out]
  unfold Ml.once
  exact (sortF_eq_iff _ _).2 HM.out
end Go.Proofs.YtdehimbfcilhpaaGreatDoor
