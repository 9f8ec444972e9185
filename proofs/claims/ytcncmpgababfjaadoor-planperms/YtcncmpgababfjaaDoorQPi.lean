/-
  The program's Program.
-/
import Derived.Test.YtcncmpgababfjaaDoorQPh
import Derived.Test.YtcncmpgababfjaaDoorQTk
import Derived.Deep.RegionHeld3
import Derived.Deep.QuietTactic
namespace Go.Proofs.YtcncmpgababfjaaDoor
open Go.RowKit Go.Lib Go.Shelf

theorem set_one {w : World} {a : Nat} {va : Value} {T : TypeId} (h : w.heap[a]? = some (.cells #[va] T)) (v : Value) : (w.setCell ⟨a, 0, none⟩ v).heap[a]? = some (.cells #[v] T) ∧ But a w (w.setCell ⟨a, 0, none⟩ v) :=
  ⟨heap_setCell_same w a 0 #[va] T v h, (But.refl a w).set 0 v⟩

set_option maxRecDepth 100000 in
theorem catch_idle (a b c : Nat) (w : World) :
    CallsD Tryd.prog 18 #[ptr a, ptr b, ptr c] .returning w fun e u' w' => e = .returned (.tuple #[]) ∧ u' = .returning ∧ w' = w := by
  refine callsD_of_wpS Tryd.func18 rfl fun c₀ cs hu => ?_
  apply wpS_seq
  apply wpS_region
  simp [wpOpsS, go_sem, recoverD, hu, Tryd.ntmps18, Exit.thenS]
  refine wpS_of_wp ?_
  have ht : (#[ptr a, ptr b, ptr c] ++ ((Array.replicate 11 undef).setIfInBounds 2 .nilIface).setIfInBounds 0 .nilIface : Array Value) = #[ptr a, ptr b, ptr c, .nilIface, undef, .nilIface, undef, undef, undef, undef, undef, undef, undef, undef] := rfl
  rw [ht]
  go_wp2_with fail
  cases c₀
  simp_all [bodyPostS, results, Tryd.results18]

theorem asFault (x1 x2 : Int) (w : World) : (Instr.typeAssert (.iface 61 (.agg #[.int .i64 x1, .int .i64 x2])) 20 61 false).run Tryd.prog w = .ok (.agg #[.int .i64 x1, .int .i64 x2]) w := by kernel_rfl

set_option maxRecDepth 100000 in
set_option maxHeartbeats 2000000 in
theorem catch_panicking (a b c B : Nat) (va vb vc : Value) (x : Nat × Int) (older : List PanicEntry) (w : World) (ha : w.heap[a]? = some (.cells #[va] 31)) (hb : w.heap[b]? = some (.cells #[vb] 3)) (hc : w.heap[c]? = some (.cells #[vc] 40)) (hab : B ≤ a) (hbb : B ≤ b) (hcb : B ≤ c) :
    CallsD Tryd.prog 18 #[ptr a, ptr b, ptr c] (.panicking ({ v := .iface 61 (.agg #[.int .i64 (x.1 : Int), .int .i64 x.2]), recovered := false } :: older)) w fun e u' w' =>
      e = .returned (.tuple #[]) ∧ u' = .panicking ({ v := .iface 61 (.agg #[.int .i64 (x.1 : Int), .int .i64 x.2]), recovered := true } :: older) ∧
      w'.heap[a]? = some (.cells #[.slice none 0 0] 31) ∧ w'.heap[b]? = some (.cells #[.int .i64 (x.1 : Int)] 3) ∧ w'.heap[c]? = some (.cells #[.int .i64 x.2] 40) ∧ Below B w w' := by
  have mixed : Tryd.prog.follows .mixedOrders = true := by kernel_rfl
  refine callsD_of_wpS Tryd.func18 rfl fun c₀ cs hu => ?_
  apply wpS_seq
  apply wpS_region
  simp [wpOpsS, go_sem, recoverD, hu, Tryd.ntmps18, Exit.thenS]
  refine wpS_of_wp ?_
  obtain ⟨x1, x2⟩ := x
  simp only
  have ht : ∀ v, (#[ptr a, ptr b, ptr c] ++ ((Array.replicate 11 undef).setIfInBounds 2 v).setIfInBounds 0 v : Array Value) = #[ptr a, ptr b, ptr c, v, undef, v, undef, undef, undef, undef, undef, undef, undef, undef] := fun _ => rfl
  rw [ht]
  have A0 := below_alloc w (.cells #[.int .i64 (x1 : Int), .int .i64 x2] 61)
  have TA := asFault (x1 : Int) x2
  have iF : (Tryd.prog.info? 61).map (·.size) = some 2 := by kernel_rfl
  have Z0 := heap_alloc_new w (.cells #[.int .i64 0, .int .i64 0] 61)
  go_wp2_with (first
    | (refine wpList_store_all rfl 61 _ _ rfl w.heap.size 2 _ 61 [.int .i64 (x1 : Int), .int .i64 x2] rfl rfl Z0 rfl rfl iF rfl ?_; intro w1 V1 b1; have B1 : Below w.heap.size w w1 := (below_alloc w _).trans (b1.lower (Nat.le_refl _) (below_alloc w _).size); have ha1 := below_heap B1 ha; have hb1 := below_heap B1 hb; have hc1 := below_heap B1 hc; have x0 : w1.cell? ⟨w.heap.size, 0, none⟩ = some (.int .i64 (x1 : Int)) := (by rw [heap_cell V1]; rfl); have y0 : w1.cell? ⟨w.heap.size, 1, none⟩ = some (.int .i64 x2) := (by rw [heap_cell V1]; rfl); have ca : w1.cell? ⟨a, 0, none⟩ = some va := (by rw [heap_cell ha1]; rfl); have cb : w1.cell? ⟨b, 0, none⟩ = some vb := (by rw [heap_cell hb1]; rfl); have cc : w1.cell? ⟨c, 0, none⟩ = some vc := (by rw [heap_cell hc1]; rfl); have za := heap_frozen ha1 0; have zb := heap_frozen hb1 0; have zc := heap_frozen hc1 0; have la := heap_lt ha; have lb := heap_lt hb; have lc := heap_lt hc))
  have na : ¬ w.heap.size = a := by omega
  have nb : ¬ w.heap.size = b := by omega
  have nc : ¬ w.heap.size = c := by omega
  have na' : ¬ a = w.heap.size := by omega
  have nb' : ¬ b = w.heap.size := by omega
  have nc' : ¬ c = w.heap.size := by omega
  have n1 : ¬ a = b := fun e => by subst e; rw [ha] at hb; cases hb
  have n2 : ¬ b = c := fun e => by subst e; rw [hb] at hc; cases hc
  have n3 : ¬ a = c := fun e => by subst e; rw [ha] at hc; cases hc
  have n1' : ¬ b = a := fun e => n1 e.symm
  have n2' : ¬ c = b := fun e => n2 e.symm
  have n3' : ¬ c = a := fun e => n3 e.symm
  go_region_held3 (fun W => W.cell? ⟨w.heap.size, 0, none⟩ = some (.int .i64 (x1 : Int)) ∧ W.cell? ⟨w.heap.size, 1, none⟩ = some (.int .i64 x2)) (simp [World.cell?_setCell_other, x0, y0]) (fail)
  go_wp2_with fail
  obtain ⟨q1, d1⟩ := set_one ha1 (.slice none 0 0)
  obtain ⟨q2, d2⟩ := set_one (d1.heap n1' hb1) (.int .i64 (x1 : Int))
  obtain ⟨q3, d3⟩ := set_one (d2.heap n2' (d1.heap n3' hc1)) (.int .i64 x2)
  have s0 : B ≤ w.heap.size := Nat.le_trans hab (Nat.le_of_lt la)
  have s1 := B1.size
  have E1 := (B1.mono s0).trans (d1.lower hab (by omega))
  have E2 := E1.trans (d2.lower hbb (Nat.le_trans s0 E1.size))
  have E3 := (E2.trans (d3.lower hcb (Nat.le_trans s0 E2.size))).drew
  exact ⟨rfl, _, rfl, _, results_none rfl _ _ _, rfl, rfl, d3.heap n3 (d2.heap n1 q1), d3.heap n2 q2, q3, E3⟩

theorem results_three {P : Program} {fn : Func} {p q r : Tmp} {t1 t2 t3 : TypeId} {tmps : Array Value} {w : World} {a b c : Nat} {va vb vc : Value} {T1 T2 T3 : TypeId} (h : fn.results = #[.cell p t1, .cell q t2, .cell r t3]) (hp : tmps.getD p undef = ptr a) (hq : tmps.getD q undef = ptr b) (hr : tmps.getD r undef = ptr c)
    (ha : w.heap[a]? = some (.cells #[va] T1)) (hb : w.heap[b]? = some (.cells #[vb] T2)) (hc : w.heap[c]? = some (.cells #[vc] T3)) (i1 : ∀ W v, W.cell? ⟨a, 0, none⟩ = some v → (loadVar t1 ⟨a, 0, none⟩).run P W = .ok v W) (i2 : ∀ W v, W.cell? ⟨b, 0, none⟩ = some v → (loadVar t2 ⟨b, 0, none⟩).run P W = .ok v W) (i3 : ∀ W v, W.cell? ⟨c, 0, none⟩ = some v → (loadVar t3 ⟨c, 0, none⟩).run P W = .ok v W) :
    (results fn tmps).run P w = .ok (.tuple #[va, vb, vc]) w := by
  have ca : w.cell? ⟨a, 0, none⟩ = some va := by rw [heap_cell ha]; rfl
  have cb : w.cell? ⟨b, 0, none⟩ = some vb := by rw [heap_cell hb]; rfl
  have cc : w.cell? ⟨c, 0, none⟩ = some vc := by rw [heap_cell hc]; rfl
  have j1 := i1 w va ca
  have j2 := i2 w vb cb
  have j3 := i3 w vc cc
  simp only [Array.getD_eq_getD_getElem?] at hp hq hr
  simp only [results, h]
  simp [asAddr, hp, hq, hr, j1, j2, j3]

theorem load_rules (a : Addr) (w : World) (v : Value) (h : w.cell? a = some v) : (loadVar 31 a).run Tryd.prog w = .ok v w := by simp [go_sem, h]
theorem load_int (a : Addr) (w : World) (v : Value) (h : w.cell? a = some v) : (loadVar 3 a).run Tryd.prog w = .ok v w := by simp [go_sem, h]
theorem load_errno (a : Addr) (w : World) (v : Value) (h : w.cell? a = some v) : (loadVar 40 a).run Tryd.prog w = .ok v w := by simp [go_sem, h]

/-- what Program answers -/
def ProgAns (l : List UInt8) (w : World) (e : Ending) (w' : World) : Prop :=
  (∃ u, e = .returned (.tuple #[u, .int .i64 (Ps.place (Ps.prog l) : Int), .int .i64 (Ps.err (Ps.prog l))]) ∧ RowsAt w' (Ps.rs (Ps.prog l)) u) ∧ Below w.heap.size w w'

set_option maxRecDepth 100000 in
set_option maxHeartbeats 4000000 in
theorem pprogram_at (l : List UInt8) (w : World) (hr : l.length ≤ 281474976710656) (hL : Laid w) :
    Calls Tryd.prog 10 #[str l] w (ProgAns l w) := by
  have hsz := str_size l
  have hmf : ∀ (fn : Fn) (first cap : Array Value) (w : World), (Instr.makeFunc fn first cap).run Tryd.prog w = .ok (.func fn first cap) w := fun _ _ _ _ => rfl
  have mixed : Tryd.prog.follows .mixedOrders = true := by kernel_rfl
  have B0 := Below.then (Below.then (below_alloc w (.cells #[.slice none 0 0] 31)) (below_alloc _ (.cells #[.int .i64 0] 3))) (below_alloc _ (.cells #[.int .i64 0] 40))
  have T := hideP (ltokens_at l _ hr (hL.below B0))
  go_enter_defers Tryd.func10, Tryd.ntmps10
  go_wp2_with fail
  refine T.out.mono ?_
  rintro e w1 ⟨⟨a1, c1, rfl, r1, _⟩, b1⟩
  have Ha : w1.heap[w.heap.size]? = some (.cells #[.slice none 0 0] 31) := below_heap b1 (below_heap (below_alloc _ _) (below_heap (below_alloc _ _) (heap_alloc_new w _)))
  have Hb : w1.heap[w.heap.size + 1]? = some (.cells #[.int .i64 0] 3) := below_heap b1 (below_heap (below_alloc _ _) (by have := heap_alloc_new (w.alloc (.cells #[.slice none 0 0] 31)) (.cells #[.int .i64 0] 3); simpa using this))
  have Hc : w1.heap[w.heap.size + 1 + 1]? = some (.cells #[.int .i64 0] 40) := below_heap b1 (by have := heap_alloc_new ((w.alloc (.cells #[.slice none 0 0] 31)).alloc (.cells #[.int .i64 0] 3)) (.cells #[.int .i64 0] 40); simpa using this)
  have B1 := Below.then B0 b1
  clear T b1 B0
  generalize hS : w.heap.size = S at *
  have HS := hideP hS
  have s1 : S ≤ w1.heap.size := by have := B1.size; omega
  clear hS
  generalize hpl : Lx.place (Lx.ans l) = pl at *
  generalize her : Lx.err (Lx.ans l) = er at *
  generalize htk : Lx.toks (Lx.ans l) = L at *
  have few := r1.row.few
  go_wp2_with (first
    | (refine wpList_store_cel rfl 3 _ _ rfl (S + 1) 0 1 3 (.int .i64 (pl : Int)) #[.int .i64 (pl : Int)] rfl rfl Hb rfl (by decide) (by kernel_rfl) rfl rfl ?_; intro w2 V2 b2)
    | (refine wpList_store_cel rfl 40 _ _ rfl (S + 1 + 1) 0 1 40 (.int .i64 er) #[.int .i64 er] rfl rfl (b2.heap (show S + 1 + 1 ≠ S + 1 by omega) Hc) rfl (by decide) (by kernel_rfl) rfl rfl ?_; intro w3 V3 b3; have c3 : w3.cell? ⟨S + 1 + 1, 0, none⟩ = some (.int .i64 er) := (by rw [heap_cell V3]; rfl)))
  all_goals have Ha3 := b3.heap (show S ≠ S + 1 + 1 by omega) (b2.heap (show S ≠ S + 1 by omega) Ha)
  all_goals have Hb3 := b3.heap (show S + 1 ≠ S + 1 + 1 by omega) V2
  all_goals have B2 := B1.trans (b2.lower (show S ≤ S + 1 by omega) s1)
  all_goals have s2 : S ≤ w2.heap.size := Nat.le_trans s1 b2.size
  all_goals have B3 := B2.trans (b3.lower (show S ≤ S + 1 + 1 by omega) s2)
  all_goals have s3 : S ≤ w3.heap.size := Nat.le_trans s2 b3.size
  · have ha3 : w3.cell? ⟨S, 0, none⟩ = some (.slice none 0 0) := by rw [heap_cell Ha3]; rfl
    have hb3 : w3.cell? ⟨S + 1, 0, none⟩ = some (.int .i64 (pl : Int)) := by rw [heap_cell Hb3]; rfl
    have za := heap_frozen Ha3 0
    have zb := heap_frozen Hb3 0
    have zc := heap_frozen V3 0
    have hans : Ps.prog l = .error (pl, er) := by
      unfold Ps.prog
      cases h : Lx.ans l with
      | ok L' => rw [h] at her; simp only [Lx.err] at her; subst her; simp_all
      | error x =>
        rw [h] at her hpl
        simp only [Lx.err, Lx.place] at her hpl
        obtain ⟨x1, x2⟩ := x
        simp only at her hpl
        subst her hpl; rfl
    have HA := hideP hans
    clear hans hpl her htk
    go_region_held3 (fun W => W.cell? ⟨S + 1, 0, none⟩ = some (.int .i64 (pl : Int)) ∧ W.cell? ⟨S + 1 + 1, 0, none⟩ = some (.int .i64 er)) (simp [World.cell?_setCell_other, World.cell?_setCell_same', hb3, c3]) (fail)
    go_wp2_with fail
    obtain ⟨q1, d1⟩ := set_one Ha3 (.slice none 0 0)
    obtain ⟨q2, d2⟩ := set_one (d1.heap (show S + 1 ≠ S by omega) Hb3) (.int .i64 (pl : Int))
    obtain ⟨q3, d3⟩ := set_one (d2.heap (show S + 1 + 1 ≠ S + 1 by omega) (d1.heap (show S + 1 + 1 ≠ S by omega) V3)) (.int .i64 er)
    have E1 := B3.trans (d1.lower (Nat.le_refl _) s3)
    have t1 := Nat.le_trans s3 d1.size
    have E2 := E1.trans (d2.lower (show S ≤ S + 1 by omega) t1)
    have t2 := Nat.le_trans t1 d2.size
    have E3 := (E2.trans (d3.lower (show S ≤ S + 1 + 1 by omega) t2)).drew
    refine ⟨_, results_three (fn := Tryd.f10) rfl rfl rfl rfl (d3.heap (show S ≠ S + 1 + 1 by omega) (d2.heap (show S ≠ S + 1 by omega) q1)) (d3.heap (show S + 1 ≠ S + 1 + 1 by omega) q2) q3 (fun _ _ => load_rules _ _ _) (fun _ _ => load_int _ _ _) (fun _ _ => load_errno _ _ _), ?_⟩
    rw [ProgAns, HA.out, HS.out]
    exact ⟨⟨_, rfl, RowsAt.nil _⟩, E3⟩
  · have hans : Ps.prog l = Ps.rules l.length 16 L := by
      unfold Ps.prog
      cases h : Lx.ans l with
      | ok L' => rw [h] at htk; simp only [Lx.toks] at htk; subst htk; rfl
      | error x =>
        rw [h] at her
        have := (Lx.ans_err h).2
        simp only [Lx.err] at her
        simp_all
    have HA := hideP hans
    clear hans hpl her htk
    have r3 := (r1.safe (Safe.but b2 Hb (by decide))).safe (Safe.but b3 (b2.heap (show S + 1 + 1 ≠ S + 1 by omega) Hc) (by decide))
    have A4 := below_alloc w3 (.cells #[.slice a1 L.length c1, .int .i64 (l.length : Int)] 59)
    have P4 : PAt _ w3.heap.size l.length L := ⟨a1, c1, heap_alloc_new w3 (.cells #[.slice a1 L.length c1, .int .i64 (l.length : Int)] 59), r3.safe (Safe.below A4)⟩
    refine (program_at w3.heap.size l.length L _ P4).mono ?_
    generalize hx : Ps.rules l.length 16 L = r
    rintro e w5 ⟨b5, hd⟩
    have Ha5 := b5.heap (show S ≠ w3.heap.size by have := heap_lt Ha3; omega) (below_heap A4 Ha3)
    have Hb5 := b5.heap (show S + 1 ≠ w3.heap.size by have := heap_lt Hb3; omega) (below_heap A4 Hb3)
    have Hc5 := b5.heap (show S + 1 + 1 ≠ w3.heap.size by have := heap_lt V3; omega) (below_heap A4 V3)
    have B5 := (B3.trans (A4.mono s3)).trans (b5.lower s3 (Nat.le_trans s3 A4.size))
    have s5 : S ≤ w5.heap.size := Nat.le_trans (Nat.le_trans s3 A4.size) b5.size
    rcases r with x | rs
    · obtain rfl := hd
      have HX := hideP hx; clear hx
      simp only [Pan]
      go_wp2_with fail
      refine leaves_cons (f := 18) (args := #[ptr S, ptr (S + 1), ptr (S + 1 + 1)]) (by simp) (by simp [go_sem]) ?_
      refine (catch_panicking S (S + 1) (S + 1 + 1) S _ _ _ x [] _ Ha5 Hb5 Hc5 (Nat.le_refl _) (by omega) (by omega)).mono ?_
      rintro e u' w6 ⟨rfl, rfl, Ha6, Hb6, Hc6, B6⟩
      have hp : Ps.prog l = .error x := HA.out.trans HX.out
      refine ⟨_, results_three (fn := Tryd.f10) rfl rfl rfl rfl Ha6 Hb6 Hc6 (fun _ _ => load_rules _ _ _) (fun _ _ => load_int _ _ _) (fun _ _ => load_errno _ _ _), ?_⟩
      rw [ProgAns, hp, HS.out]
      exact ⟨⟨_, rfl, RowsAt.nil _⟩, B5.trans B6⟩
    · obtain ⟨u, rfl, ⟨a5, c5, xs, rfl, hm, hrow, heach⟩⟩ := hd
      have hu : RowsAt w5 rs (.slice a5 xs.length c5) := ⟨a5, c5, xs, rfl, hm, hrow, heach⟩
      clear hm hrow heach
      have HX := hideP hx; clear hx
      go_wp2_with (first
        | (refine wpList_store_cel rfl 31 _ _ rfl S 0 1 31 (.slice a5 xs.length c5) #[.slice a5 xs.length c5] rfl rfl Ha5 rfl (by decide) (by kernel_rfl) rfl rfl ?_; intro w6 V6 b6)
        | (refine wpList_store_cel rfl 3 _ _ rfl (S + 1) 0 1 3 (.int .i64 0) #[.int .i64 0] rfl rfl (b6.heap (show S + 1 ≠ S by omega) Hb5) rfl (by decide) (by kernel_rfl) rfl rfl ?_; intro w7 V7 b7)
        | (refine wpList_store_cel rfl 40 _ _ rfl (S + 1 + 1) 0 1 40 (.int .i64 0) #[.int .i64 0] rfl rfl (b7.heap (show S + 1 + 1 ≠ S + 1 by omega) (b6.heap (show S + 1 + 1 ≠ S by omega) Hc5)) rfl (by decide) (by kernel_rfl) rfl rfl ?_; intro w8 V8 b8))
      have hu6 := hu.safe (Safe.but b6 Ha5 (by decide)) (Safe.but b6 Ha5 (by decide)) (Safe.but b6 Ha5 (by decide))
      have hb7 := b6.heap (show S + 1 ≠ S by omega) Hb5
      have hu7 := hu6.safe (Safe.but b7 hb7 (by decide)) (Safe.but b7 hb7 (by decide)) (Safe.but b7 hb7 (by decide))
      have hc8 := b7.heap (show S + 1 + 1 ≠ S + 1 by omega) (b6.heap (show S + 1 + 1 ≠ S by omega) Hc5)
      have hu8 := hu7.safe (Safe.but b8 hc8 (by decide)) (Safe.but b8 hc8 (by decide)) (Safe.but b8 hc8 (by decide))
      have E1 := B5.trans (b6.lower (Nat.le_refl _) s5)
      have t1 := Nat.le_trans s5 b6.size
      have E2 := E1.trans (b7.lower (show S ≤ S + 1 by omega) t1)
      have t2 := Nat.le_trans t1 b7.size
      have E3 := E2.trans (b8.lower (show S ≤ S + 1 + 1 by omega) t2)
      refine leaves_cons (f := 18) (args := #[ptr S, ptr (S + 1), ptr (S + 1 + 1)]) (by simp) (by simp [go_sem]) ?_
      refine (catch_idle S (S + 1) (S + 1 + 1) _).mono ?_
      rintro e u' w9 ⟨rfl, rfl, rfl⟩
      have hp : Ps.prog l = .ok rs := HA.out.trans HX.out
      refine ⟨_, results_three (fn := Tryd.f10) rfl rfl rfl rfl (b8.heap (show S ≠ S + 1 + 1 by omega) (b7.heap (show S ≠ S + 1 by omega) V6)) (b8.heap (show S + 1 ≠ S + 1 + 1 by omega) V7) V8 (fun _ _ => load_rules _ _ _) (fun _ _ => load_int _ _ _) (fun _ _ => load_errno _ _ _), ?_⟩
      rw [ProgAns, hp, HS.out]
      exact ⟨⟨_, rfl, hu8⟩, E3⟩
end Go.Proofs.YtcncmpgababfjaaDoor
