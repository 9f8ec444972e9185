/-
  The library's text builder as the program holds it: embedded in its printer's block: what its methods do there, and what they leave alone.
-/
import Derived.Lib.Builder
import Derived.Lib.AppendStr
import Derived.Lib.UnsafeStr
import Derived.Laws.Externs
import Derived.StillTailTactics
import Derived.Test.YtefajadolgmpdaaGreatDoorQMm8
import Derived.Test.YtefajadolgmpdaaGreatDoorQLd
import Derived.Test.YtefajadolgmpdaaGreatDoorQIs2
import Derived.Test.YtefajadolgmpdaaGreatDoorQSn
namespace Go.Proofs.YtefajadolgmpdaaGreatDoor
open Go.RowKit Go.Lib Go.Shelf

/-- blocks that are neither b nor rows of bytes stand as they stood -/
def Kp (b : Nat) (w w' : World) : Prop := ∀ (k : Nat) (C : Array Value) (T : TypeId), w.heap[k]? = some (.cells C T) → k ≠ b → T ≠ 5 → w'.heap[k]? = some (.cells C T)
theorem Kp.refl (b : Nat) (w : World) : Kp b w w := fun _ _ _ h _ _ => h
theorem Kp.trans {b : Nat} {x y z : World} (h : Kp b x y) (k : Kp b y z) : Kp b x z := fun i C T hi hb hT => k i C T (h i C T hi hb hT) hb hT
theorem Kp.below {b : Nat} {x y z : World} (h : Kp b x y) (k : Below y.heap.size y z) : Kp b x z := fun i C T hi hb hT => below_heap k (h i C T hi hb hT)
theorem Kp.of {b : Nat} {y z : World} (k : Below y.heap.size y z) : Kp b y z := (Kp.refl b y).below k

/-- the printer in block b holds the text l; what it has made lies from B on -/
abbrev Bd (B b : Nat) (l : List UInt8) (w : World) : Prop := Lib.IsBuilder 108 5 B b (Lib.byteCells l) w

theorem Tryz.sizeBld : (Tryz.prog.info? 106).map (·.size) = some 2 := by kernel_rfl
theorem Tryz.liesBld : liesAt Tryz.prog Tryz.prog.depth 108 (2 / Tryz.prog.cellsOf 108) 0 106 1 = true := by kernel_rfl
theorem Tryz.cellsByte : Tryz.prog.cellsOf 5 = 1 := by kernel_rfl

set_option maxHeartbeats 1000000 in
set_option maxRecDepth 100000 in
theorem check_used (b : Nat) (w : World) (h0 : w.cell? ⟨b, 0, none⟩ = some (ptr b)) :
    Calls Tryz.prog 112 #[ptr b] w fun e w' => e = .returned (.tuple #[]) ∧ w = w' := by
  obtain ⟨j, hj, _⟩ := Option.map_eq_some_iff.1 Tryz.sizeBld
  go_enter Tryz.func112, Tryz.ntmps112
  go_wp2
  rw [Lib.run_neq_ptr_same w _ Tryz.underlying103 hj]
  go_wp2
  go_end0
  exact ⟨rfl, rfl⟩
set_option maxHeartbeats 1000000 in
set_option maxRecDepth 100000 in
theorem check_fresh (b : Nat) (w : World) (h0 : w.cell? ⟨b, 0, none⟩ = some (.pointer none)) (hsh : w.shape? b = some (108, 2)) (hfz : w.frozen? ⟨b, 0, none⟩ = false) :
    Calls Tryz.prog 112 #[ptr b] w fun e w' => e = .returned (.tuple #[]) ∧ w.setCell ⟨b, 0, none⟩ (ptr b) = w' := by
  obtain ⟨j, hj, hjs⟩ := Option.map_eq_some_iff.1 Tryz.sizeBld
  go_enter Tryz.func112, Tryz.ntmps112
  go_wp2
  rw [Lib.run_to_unsafe w ⟨b, 0, none⟩ Tryz.underlying103 Tryz.underlying149 hj (by rw [hjs]; decide) hsh (Nat.zero_lt_succ 1)]
  simp only [Result.andThen]
  rw [Oper.upon_value]
  go_wp2
  rw [run_callFunc_extern Tryz.func120 (by kernel_rfl) (by kernel_rfl) (by kernel_rfl) (e := Extern.AbiNoEscape.same) (by kernel_rfl)]
  rw [Lib.run_noEscape]
  simp only [Result.andThen]
  rw [Oper.upon_value]
  go_wp2
  rw [Lib.run_from_unsafe w ⟨b, 0, none⟩ Tryz.underlying149 Tryz.underlying103 hj hsh Tryz.liesBld]
  simp only [Result.andThen]
  rw [Oper.upon_value]
  go_wp2
  go_end0
  exact ⟨rfl, rfl⟩
theorem kp_set {b : Nat} {w : World} (o : Nat) (v : Value) : Kp b w (w.setCell ⟨b, o, none⟩ v) := fun k _ _ hk hb _ => (Below.heap_setCell w ⟨b, o, none⟩ v k hb).trans hk
theorem check_at (B b : Nat) (l : List UInt8) (w : World) (h : Bd B b l w) :
    Calls Tryz.prog 112 #[ptr b] w fun e w' => e = .returned (.tuple #[]) ∧ (Lib.BuilderAt 108 5 B b (ptr b) (Lib.byteCells l) w' ∧ Below B w w' ∧ Kp b w w') := by
  rcases h with h | h
  · refine (check_fresh b w h.cell0 h.shape h.frozen0).mono ?_
    rintro e w' ⟨rfl, rfl⟩
    exact ⟨rfl, h.used _, (Below.refl B w).setCell (p := ⟨b, 0, none⟩) h.1 _, kp_set 0 _⟩
  · refine (check_used b w h.cell0).mono ?_
    rintro e w' ⟨rfl, rfl⟩
    exact ⟨rfl, h, Below.refl B _, Kp.refl _ _⟩

theorem kp_grown {b : Nat} {w w' : World} {B n : Nat} {v : Value} {xs : List Value} (ho : w.ownsRow B 5 1 v n xs) (hg : w.grownBy w' v.ownBlock) : Kp b w w' := fun k C _ hk _ hT => Safe.grown ho hg hT k C hk
theorem byteCells_snoc (l m : List UInt8) : Lib.byteCells l ++ Lib.byteCells m = Lib.byteCells (l ++ m) := by simp [Lib.byteCells]
theorem strCells_byte (s : List UInt8) : Lib.strCells ⟨s.toArray⟩ = Lib.byteCells s := by simp [Lib.strCells, Lib.byteCells]

set_option maxHeartbeats 2000000 in
set_option maxRecDepth 100000 in
theorem writeString_at (B b : Nat) (l s : List UInt8) (w : World) (h : Bd B b l w) (hlen : l.length + s.length ≤ 140737488355328) (hBw : B ≤ w.heap.size) :
    Calls Tryz.prog 87 #[ptr b, str s] w fun e w' => e = .returned (.tuple #[.int .i64 (s.length : Int), .nilIface]) ∧ (Bd B b (l ++ s) w' ∧ Below B w w' ∧ Kp b w w') := by
  have hsz := str_size s
  have hbl := Lib.byteCells_length l
  obtain ⟨i0, hi, hz0, hz1, hz2⟩ := info_parts Tryz.infoU8
  go_enter Tryz.func87, Tryz.ntmps87
  go_wp2_with (go_at_call 112; refine (check_at B b l _ h).mono ?_)
  rintro e w1 ⟨rfl, h1, hb1, hk1⟩
  obtain ⟨hB, v, hbk, hown, hne⟩ := h1
  have c0 : w1.cell? ⟨b, 0, none⟩ = some (ptr b) := by rw [Lib.cell_of_heap hbk]; rfl
  have c1 : w1.cell? ⟨b, 1, none⟩ = some v := by rw [Lib.cell_of_heap hbk]; rfl
  have z1 := hb1.size
  go_wp2_with (at_builtin; refine Lib.wpList_append_own_string _ rfl _ _ 104 9 rfl B 5 i0 Tryz.underlying104 Tryz.underlying9 hi hz0 hz1 hz2 _ _ _ rfl hown ⟨s.toArray⟩ rfl ?c3 ?c4 ?c5 ?_)
  case c3 => unfold maxLen; omega
  case c4 => omega
  case c5 => omega
  intro v' w2 hown' hgrow _
  have hlt : b < w1.heap.size := heap_lt hbk
  have hb2 : w2.heap[b]? = some (.cells #[ptr b, v] 108 (0, 0)) := by
    rw [hgrow.block b hlt (fun e => hne e.symm)]
    exact hbk
  have d0 : w2.cell? ⟨b, 0, none⟩ = some (ptr b) := by rw [Lib.cell_of_heap hb2]; rfl
  have d1 : w2.cell? ⟨b, 1, none⟩ = some v := by rw [Lib.cell_of_heap hb2]; rfl
  have f1 : w2.frozen? ⟨b, 1, none⟩ = false := Lib.frozen_of_heap hb2 1
  obtain ⟨ao, n', cap, rfl⟩ : ∃ ao n' cap, v' = .slice ao n' cap := by
    rcases hown'.2 with ⟨hv, _⟩ | ⟨g, cap, cur, hv, _⟩
    · exact ⟨_, _, _, hv⟩
    · exact ⟨_, _, _, hv⟩
  go_wp2
  go_ret2
  have hkk : Kp b w1 w2 := kp_grown hown hgrow
  refine ⟨rfl, .inr ?_, ?_, (hk1.trans hkk).trans (kp_set 1 _)⟩
  · have h2 : Lib.byteCells (l ++ s) = Lib.byteCells l ++ Lib.strCells ⟨s.toArray⟩ := by rw [strCells_byte, byteCells_snoc]
    rw [h2]
    exact Lib.BuilderAt.put (T := 108) (e := 5) hB hb2 (bs' := Lib.byteCells l ++ Lib.strCells ⟨s.toArray⟩) (by rw [List.length_append, hbl, Lib.strCells_length, hsz]; simpa [hbl, hsz] using hown') (by decide)
  · exact (hb1.grown hgrow (by omega) (fun k hk => (hown.lt k hk).1)).setCell (p := ⟨b, 1, none⟩) hB _

set_option maxHeartbeats 2000000 in
set_option maxRecDepth 100000 in
theorem writeByte_at (B b : Nat) (l : List UInt8) (c : UInt8) (w : World) (h : Bd B b l w) (hlen : l.length + 1 ≤ 140737488355328) (hBw : B ≤ w.heap.size) :
    Calls Tryz.prog 91 #[ptr b, .int .u8 (c.toNat : Int)] w fun e w' => e = .returned .nilIface ∧ (Bd B b (l ++ [c]) w' ∧ Below B w w' ∧ Kp b w w') := by
  have hbl := Lib.byteCells_length l
  obtain ⟨i0, hi, hz0, hz1, hz2⟩ := info_parts Tryz.infoU8
  go_enter Tryz.func91, Tryz.ntmps91
  go_wp2_with (go_at_call 112; refine (check_at B b l _ h).mono ?_)
  rintro e w1 ⟨rfl, h1, hb1, hk1⟩
  obtain ⟨hB, v, hbk, hown, hne⟩ := h1
  have c0 : w1.cell? ⟨b, 0, none⟩ = some (ptr b) := by rw [Lib.cell_of_heap hbk]; rfl
  have c1 : w1.cell? ⟨b, 1, none⟩ = some v := by rw [Lib.cell_of_heap hbk]; rfl
  have z1 := hb1.size
  go_wp2_with (at_builtin; refine wpList_append_own _ rfl _ _ 104 rfl B 5 i0 (.int .u8 0) 1 1 Tryz.underlying104 hi hz0 hz1 hz2 rfl (by decide) _ _ _ rfl (hown.alloc _) ⟨w1.heap.size, 0, none⟩ 1 1 [.int .u8 (c.toNat : Int)] rfl rfl ?c1 ?c2 ?c3 ?c4 ?c5 ?_)
  case c1 =>
    intro j u hj
    match j, hj with
    | 0, hj => simp at hj; subst hj; simp [Addr.add]
  case c2 => intro u hu; simp at hu; subst hu; rfl
  case c3 => unfold maxLen; omega
  case c4 => omega
  case c5 => simp; omega
  intro v' w2 hown' hgrow _
  have hlt : b < w1.heap.size := heap_lt hbk
  have hb2 : w2.heap[b]? = some (.cells #[ptr b, v] 108 (0, 0)) := by
    rw [hgrow.block b (by simp; omega) (fun e => hne e.symm), Lib.alloc_old w1 _ b hlt]
    exact hbk
  have d0 : w2.cell? ⟨b, 0, none⟩ = some (ptr b) := by rw [Lib.cell_of_heap hb2]; rfl
  have d1 : w2.cell? ⟨b, 1, none⟩ = some v := by rw [Lib.cell_of_heap hb2]; rfl
  have f1 : w2.frozen? ⟨b, 1, none⟩ = false := Lib.frozen_of_heap hb2 1
  obtain ⟨ao, n', cap, rfl⟩ : ∃ ao n' cap, v' = .slice ao n' cap := by
    rcases hown'.2 with ⟨hv, _⟩ | ⟨g, cap, cur, hv, _⟩
    · exact ⟨_, _, _, hv⟩
    · exact ⟨_, _, _, hv⟩
  go_wp2
  go_ret
  have hkk : Kp b w1 w2 := (Kp.of (below_alloc w1 _)).trans (kp_grown (hown.alloc _) hgrow)
  refine ⟨rfl, .inr ?_, ?_, (hk1.trans hkk).trans (kp_set 1 _)⟩
  · have h2 : Lib.byteCells (l ++ [c]) = Lib.byteCells l ++ [.int .u8 (c.toNat : Int)] := by rw [← byteCells_snoc]; rfl
    rw [h2]
    exact Lib.BuilderAt.put (T := 108) (e := 5) hB hb2 (bs' := Lib.byteCells l ++ [.int .u8 (c.toNat : Int)]) (by rw [List.length_append, hbl]; simpa [hbl] using hown') (by decide)
  · exact ((hb1.alloc (by omega) _).grown hgrow (by simp; omega) (fun k hk => (hown.lt k hk).1)).setCell (p := ⟨b, 1, none⟩) hB _

theorem Bd.at_ {B b : Nat} {l : List UInt8} {w : World} (h : Bd B b l w) : ∃ p, Lib.BuilderAt 108 5 B b p (Lib.byteCells l) w := by
  rcases h with h | h
  · exact ⟨_, h⟩
  · exact ⟨_, h⟩
set_option maxHeartbeats 1000000 in
set_option maxRecDepth 100000 in
theorem string_at (B b : Nat) (l : List UInt8) (w : World) (h : Bd B b l w) (h0 : l ≠ []) :
    Calls Tryz.prog 54 #[ptr b] w fun e w' => e = .returned (str l) ∧ Below B w w' := by
  have mixed : Tryz.prog.follows .mixedOrders = true := by kernel_rfl
  obtain ⟨p, hB, v, hbk, hown, hne⟩ := h.at_
  have hl0 : l.length ≠ 0 := by simpa using h0
  rw [Lib.byteCells_length] at hown
  obtain ⟨g, cap, cur, rfl, hbg, hg, hnc, hcm, hcs, htake⟩ : ∃ g cap cur, v = .slice (some ⟨g, 0, none⟩) l.length cap ∧ B ≤ g ∧ w.heap[g]? = some (.cells cur 5 (0, 0)) ∧ l.length ≤ cap ∧ cap ≤ maxLen ∧ cur.size = cap * 1 ∧ cur.toList.take (l.length * 1) = Lib.byteCells l := by
    rcases hown.2 with ⟨_, hz⟩ | ⟨g, cap, cur, hv, r⟩
    · exact absurd hz hl0
    · exact ⟨g, cap, cur, hv, r⟩
  have c1 : w.drew.cell? ⟨b, 1, none⟩ = some (.slice (some ⟨g, 0, none⟩) l.length cap) := by
    have : w.drew.heap[b]? = some (.cells #[p, .slice (some ⟨g, 0, none⟩) l.length cap] 108 (0, 0)) := hbk
    rw [Lib.cell_of_heap this]; rfl
  have hSD : (Builtin.unsafeSliceData_ #[104] 138 #[.slice (some ⟨g, 0, none⟩) l.length cap]).run Tryz.prog w.drew = .ok (.pointer (some ⟨g, 0, none⟩)) w.drew :=
    Lib.run_unsafeSliceData_row _ _ _ _ _ _ (by omega)
  have hUS : (Builtin.unsafeString_ #[138, 3] 9 #[.pointer (some ⟨g, 0, none⟩), .int .i64 l.length]).run Tryz.prog w.drew = .ok (str l) (w.drew.freeze ⟨g, 0, none⟩ l.length) := by
    refine Lib.run_unsafeString_row w.drew 138 3 9 5 Tryz.underlying138 Tryz.cellsByte g cur.size (by have hg' : w.drew.heap[g]? = some (.cells cur 5 (0, 0)) := hg; simp [World.shape?, hg']) l h0 (by omega) (by unfold maxLen at hcm; omega) ?_
    intro j x hx
    have := hown.cells (g := g) rfl j (.int .u8 x.toNat) (by simp [Lib.byteCells, hx])
    exact this
  clear hcm htake hcs hne
  go_enter Tryz.func54, Tryz.ntmps54
  go_wp2
  go_region_o
  all_goals (go_wp2; go_ret; exact ⟨rfl, Lib.below_freeze (Below.drew (Below.refl B w)) (p := ⟨g, 0, none⟩) hbg _⟩)
set_option maxHeartbeats 2000000 in
set_option maxRecDepth 100000 in
theorem string_none (B b : Nat) (p : Value) (w : World) (hbk : w.heap[b]? = some (.cells #[p, .slice none 0 0] 108)) :
    Calls Tryz.prog 54 #[ptr b] w fun e w' => e = .returned (str []) ∧ Below B w w' := by
  have mixed : Tryz.prog.follows .mixedOrders = true := by kernel_rfl
  have hUS : ∀ W, (Builtin.unsafeString_ #[138, 3] 9 #[.pointer none, .int .i64 0]).run Tryz.prog W = .ok (.string .empty) W := fun W => Lib.run_unsafeString_none W _ _ _ _
  have c1 : w.drew.cell? ⟨b, 1, none⟩ = some (.slice none 0 0) := by
    have : w.drew.heap[b]? = some (.cells #[p, .slice none 0 0] 108 (0, 0)) := hbk
    rw [Lib.cell_of_heap this]; rfl
  have hSD : (Builtin.unsafeSliceData_ #[104] 138 #[.slice none 0 0]).run Tryz.prog w.drew = .ok (.pointer none) w.drew := rfl
  go_enter Tryz.func54, Tryz.ntmps54
  go_wp2
  go_region_o
  all_goals (go_wp2; go_ret; exact ⟨rfl, Below.drew (Below.refl B w)⟩)
end Go.Proofs.YtefajadolgmpdaaGreatDoor

/-
  The program's printer: what it writes of a term, an atom, a literal, a rule.
-/
namespace Go.Proofs.YtefajadolgmpdaaGreatDoor
open Go.RowKit Go.Lib Go.Shelf

theorem Bd.keep {B b : Nat} {l : List UInt8} {w w' : World} (h : Bd B b l w) (hb : Below w.heap.size w w') : Bd B b l w' := by
  have key : ∀ p, Lib.BuilderAt 108 5 B b p (Lib.byteCells l) w → Lib.BuilderAt 108 5 B b p (Lib.byteCells l) w' := by
    rintro p ⟨h1, v, h2, h3, h4⟩
    exact ⟨h1, v, below_heap hb h2, ownsRow_keep h3 (Safe.below hb), h4⟩
  exact h.imp (key _) (key _)

/-- the printer in block b holds the text l; w0: the world in which it was made -/
structure PS (w0 : World) (b : Nat) (l : List UInt8) (w : World) : Prop where
  laid : Laid w0
  low : Below w0.heap.size w0 w
  bld : Bd w0.heap.size b l w
theorem PS.below {w0 w w' : World} {b : Nat} {l : List UInt8} (h : PS w0 b l w) (hb : Below w.heap.size w w') : PS w0 b l w' := ⟨h.laid, h.low.trans (hb.mono h.low.size), h.bld.keep hb⟩
theorem PS.laidW {w0 w : World} {b : Nat} {l : List UInt8} (h : PS w0 b l w) : Laid w := h.laid.below h.low
theorem PS.lt {w0 w : World} {b : Nat} {l : List UInt8} (h : PS w0 b l w) : b < w.heap.size := by
  obtain ⟨p, h1⟩ := h.bld.at_
  exact h1.lt

theorem pwstr {w0 w : World} {b : Nat} {l : List UInt8} (h : PS w0 b l w) (s : List UInt8) (hlen : l.length + s.length ≤ 140737488355328) :
    Calls Tryz.prog 87 #[ptr b, str s] w fun e w' => e = .returned (.tuple #[.int .i64 (s.length : Int), .nilIface]) ∧ PS w0 b (l ++ s) w' ∧ Kp b w w' := by
  refine (writeString_at w0.heap.size b l s w h.bld hlen h.low.size).mono ?_
  rintro e w' ⟨rfl, h1, h2, h3⟩
  exact ⟨rfl, ⟨h.laid, h.low.trans h2, h1⟩, h3⟩
theorem pwbyte {w0 w : World} {b : Nat} {l : List UInt8} (h : PS w0 b l w) (c : UInt8) (hlen : l.length + 1 ≤ 140737488355328) :
    Calls Tryz.prog 91 #[ptr b, .int .u8 (c.toNat : Int)] w fun e w' => e = .returned .nilIface ∧ PS w0 b (l ++ [c]) w' ∧ Kp b w w' := by
  refine (writeByte_at w0.heap.size b l c w h.bld hlen h.low.size).mono ?_
  rintro e w' ⟨rfl, h1, h2, h3⟩
  exact ⟨rfl, ⟨h.laid, h.low.trans h2, h1⟩, h3⟩

theorem Kp.cell {b N : Nat} {w w' : World} {C : Array Value} {T : TypeId} (k : Kp b w w') (h : w.heap[N]? = some (.cells C T)) (hn : N ≠ b) (hT : T ≠ 5) (j : Nat) : w'.cell? ⟨N, j, none⟩ = C[j]? := heap_cell (k N C T h hn hT) j

set_option maxRecDepth 100000 in
set_option maxHeartbeats 2000000 in
theorem pterm_at {w0 w : World} {b : Nat} {l s : List UInt8} (t : Tm) (h : PS w0 b l w) (hi : Sh.KIn t) (hs : Sh.termS t = some s) (hlen : l.length + 34 ≤ 140737488355328) :
    Calls Tryz.prog 86 #[ptr b, tval t] w fun e w' => e = .returned (.tuple #[]) ∧ PS w0 b (l ++ s) w' ∧ Kp b w w' := by
  have mixed : Tryz.prog.follows .mixedOrders = true := by kernel_rfl
  have hsl := Sh.term_len hi hs
  obtain ⟨v, ⟨a, n, c⟩⟩ := t
  have A0 := below_alloc w (.cells #[str v, .bool a, .int .i64 n, str c] 38)
  have K0 : Kp b w _ := Kp.of A0
  have P0 := h.below A0
  have L0 := P0.laidW
  unfold Sh.termS at hs
  simp only at hs
  by_cases hv : v = []
  · subst hv
    rw [if_neg (by simp)] at hs
    cases a
    · rw [if_neg (by simp)] at hs
      split at hs
      · rename_i hp
        have hc : c.length ≤ 32 := by
          have := hp.2
          unfold Sh.plainB at this
          simp only [Bool.and_eq_true, decide_eq_true_eq] at this
          exact this.1.2
        have I := hideP (isWord_at c _ L0)
        split at hs
        · rename_i hw
          obtain rfl : c = s := Option.some.inj hs
          rw [hw] at I
          clear hp hw
          go_enter Tryz.func86, Tryz.ntmps86
          go_wp2_with fail
          refine I.out.mono ?_
          rintro e w1 ⟨rfl, b1⟩
          have P1 := P0.below b1
          have H1 := below_heap b1 (heap_alloc_new w (.cells #[str [], .bool false, .int .i64 n, str c] 38))
          have c3 : w1.cell? ⟨w.heap.size, 3, none⟩ = some (str c) := by rw [heap_cell H1]; rfl
          go_wp2_with fail
          go_still_tail 6, (by kernel_rfl)
          go_wp2_with fail
          refine (pwstr (P1.below (Below.refl _ _).drew) c (by omega)).mono ?_
          rintro e w2 ⟨rfl, P2, k2⟩
          go_wp2_with fail
          go_end0
          exact ⟨rfl, P2, (K0.below b1).trans k2⟩
        · rename_i hw
          obtain rfl : 34 :: (c ++ [34]) = s := Option.some.inj hs
          have hw' : Sh.wordB c = false := by simpa using hw
          rw [hw'] at I
          have Q := hideP (fun W => quoted_at c W hc)
          clear hp hw hw' hs
          generalize 34 :: (c ++ [34]) = s at *
          go_enter Tryz.func86, Tryz.ntmps86
          go_wp2_with fail
          refine I.out.mono ?_
          rintro e w1 ⟨rfl, b1⟩
          have P1 := P0.below b1
          have H1 := below_heap b1 (heap_alloc_new w (.cells #[str [], .bool false, .int .i64 n, str c] 38))
          have c3 : w1.cell? ⟨w.heap.size, 3, none⟩ = some (str c) := by rw [heap_cell H1]; rfl
          go_wp2_with fail
          have hne : w.heap.size ≠ b := by have := h.lt; omega
          go_region_held3 (fun W => W.cell? ⟨w.heap.size, 3, none⟩ = some (str c)) (first | exact c3 | exact z3) (first
            | (go_at_call 111; refine (Q.out _).mono ?_; rintro e w2 ⟨rfl, rfl⟩)
            | (go_at_call 87; refine (pwstr (P1.below (Below.refl _ _).drew) s (by omega)).mono ?_; rintro e w3 ⟨rfl, P3, k3⟩; have z3 : w3.cell? ⟨w.heap.size, 3, none⟩ = some (str c) := k3.cell (show w1.drew.heap[w.heap.size]? = _ from H1) hne (by decide) 3))
          all_goals (go_wp2_with fail; go_end0; exact ⟨rfl, P3, (K0.below b1).trans k3⟩)
      · cases hs
    · rw [if_pos rfl] at hs
      split at hs
      · rename_i hc0
        subst hc0
        obtain rfl : Go.Lib.itoa n = s := Option.some.inj hs
        have H1 := heap_alloc_new w (.cells #[str [], .bool true, .int .i64 n, str []] 38)
        have I := hideP (fun W (h : Laid W) => itoa_at n W hi.1 hi.2 h)
        clear hs
        generalize Go.Lib.itoa n = s at *
        go_enter Tryz.func86, Tryz.ntmps86
        go_wp2_with fail
        generalize w.alloc (.cells #[str [], .bool true, .int .i64 n, str []] 38) = w1 at *
        have c2 : w1.cell? ⟨w.heap.size, 2, none⟩ = some (.int .i64 n) := by rw [heap_cell H1]; rfl
        have hne : w.heap.size ≠ b := by have := h.lt; omega
        go_region_held3 (fun W => W.cell? ⟨w.heap.size, 2, none⟩ = some (.int .i64 n)) (first | exact c2 | exact z2 | exact z3) (first
          | (go_at_call 99; refine (I.out _ L0.drew).mono ?_; rintro e w2 ⟨rfl, b2⟩; have H2 := below_heap b2 (show w1.drew.heap[w.heap.size]? = _ from H1); have z2 : w2.cell? ⟨w.heap.size, 2, none⟩ = some (.int .i64 n) := heap_cell H2 2)
          | (go_at_call 87; refine (pwstr ((P0.below (Below.refl _ _).drew).below b2) s (by omega)).mono ?_; rintro e w3 ⟨rfl, P3, k3⟩; have z3 : w3.cell? ⟨w.heap.size, 2, none⟩ = some (.int .i64 n) := k3.cell H2 hne (by decide) 2))
        all_goals (go_wp2_with fail; go_end0; exact ⟨rfl, P3, ((K0.below (Below.refl _ _).drew).below b2).trans k3⟩)
      · cases hs
  · rw [if_pos hv] at hs
    split at hs
    · obtain rfl : v = s := Option.some.inj hs
      have q : v.isEmpty = false := by simpa using hv
      clear hs hv
      have H1 := heap_alloc_new w (.cells #[str v, .bool a, .int .i64 n, str c] 38)
      go_enter Tryz.func86, Tryz.ntmps86
      go_wp2_with fail
      generalize w.alloc (.cells #[str v, .bool a, .int .i64 n, str c] 38) = w1 at *
      have c0 : w1.cell? ⟨w.heap.size, 0, none⟩ = some (str v) := by rw [heap_cell H1]; rfl
      go_still_tail 5, (by kernel_rfl)
      go_wp2_with fail
      refine (pwstr (P0.below (Below.refl _ _).drew) v (by omega)).mono ?_
      rintro e w2 ⟨rfl, P2, k2⟩
      go_wp2_with fail
      go_end0
      exact ⟨rfl, P2, (K0.below (Below.refl _ _).drew).trans k2⟩
    · cases hs
end Go.Proofs.YtefajadolgmpdaaGreatDoor

/-
  The program's printer: what it writes of an atom, a literal, a rule.
-/
namespace Go.Proofs.YtefajadolgmpdaaGreatDoor
open Go.RowKit Go.Lib Go.Shelf

set_option maxRecDepth 100000 in
set_option maxHeartbeats 2000000 in
theorem pplace_at {w0 w : World} {b : Nat} {l s : List UInt8} (x : List UInt8) (t : Tm) (y : List UInt8) (h : PS w0 b l w) (hi : Sh.KIn t) (hs : Sh.maybeS x t y = some s) (hx : x.length ≤ 10) (hy : y.length ≤ 10) (hlen : l.length + 54 ≤ 140737488355328) :
    Calls Tryz.prog 89 #[ptr b, str x, tval t, str y] w fun e w' => e = .returned (.tuple #[]) ∧ PS w0 b (l ++ s) w' ∧ Kp b w w' := by
  have N := hideP (fun W => isNone_at t W)
  have A0 := below_alloc w (.cells (tv t).toArray 38)
  have H0 := heap_alloc_new w (.cells (tv t).toArray 38)
  have K0 : Kp b w _ := Kp.of A0
  have P0 := h.below A0
  have hne : w.heap.size ≠ b := by have := h.lt; omega
  unfold Sh.maybeS at hs
  cases hn : Sh.noneT t with
  | true =>
    rw [if_pos hn] at hs
    obtain rfl : [] = s := Option.some.inj hs
    rw [hn] at N
    clear hn hs
    go_enter Tryz.func89, Tryz.ntmps89
    go_wp2_with fail
    refine (N.out _).mono ?_
    rintro e w1 ⟨rfl, b1⟩
    go_wp2_with fail
    (try simp only [Exit.inBlock, Exit.then]); refine bodyPost_ret (results_none rfl _ _ _) rfl ?_
    exact ⟨rfl, by rw [List.append_nil]; exact P0.below b1, K0.below b1⟩
  | false =>
    rw [if_neg (by simp [hn])] at hs
    obtain ⟨m, hm, hs⟩ := Option.map_eq_some_iff.1 hs
    have HS := hideP hs.symm
    have hml := Sh.term_len hi hm
    rw [hn] at N
    clear hn hs
    have T := hideP (fun (W : World) (l' : List UInt8) (P : PS w0 b l' W) (hl : l'.length + 34 ≤ 140737488355328) => pterm_at t P hi hm hl)
    clear hm
    go_enter Tryz.func89, Tryz.ntmps89
    go_wp2_with fail
    refine (N.out _).mono ?_
    rintro e w1 ⟨rfl, b1⟩
    have P1 := P0.below b1
    have K1 := K0.below b1
    have H1 := below_heap b1 H0
    go_wp2_with fail
    refine (pwstr P1 x (by omega)).mono ?_
    rintro e w2 ⟨rfl, P2, k2⟩
    have H2 := k2 _ _ _ H1 hne (by decide)
    go_wp2_with (refine wpList_load_all rfl 38 _ rfl w.heap.size 4 38 (tv t) _ rfl H2 rfl Tryz.underlying38 rfl Tryz.iT4 ?_)
    refine (T.out w2 (l ++ x) P2 (by rw [List.length_append]; omega)).mono ?_
    rintro e w3 ⟨rfl, P3, k3⟩
    go_wp2_with fail
    refine (pwstr P3 y (by simp only [List.length_append]; omega)).mono ?_
    rintro e w4 ⟨rfl, P4, k4⟩
    go_wp2_with fail
    go_end0
    refine ⟨rfl, ?_, ((K1.trans k2).trans k3).trans k4⟩
    rw [HS.out]
    simpa [List.append_assoc] using P4

set_option maxRecDepth 100000 in
set_option maxHeartbeats 2000000 in
theorem patom_at {w0 w : World} {b : Nat} {l s : List UInt8} (p : List UInt8) (a : Option Addr) (c : Nat) (ts : List Tm) (h : PS w0 b l w) (hr : Row tK w0 a c ts) (hi : ∀ t ∈ ts, Sh.KIn t) (hs : Sh.atomS p ts = some s) (hlen : l.length + 300 ≤ 140737488355328) :
    Calls Tryz.prog 88 #[ptr b, str p, .slice a ts.length c] w fun e w' => e = .returned (.tuple #[]) ∧ PS w0 b (l ++ s) w' ∧ Kp b w w' := by
  obtain ⟨m, hw, h4, hm, hse⟩ := Sh.atom_parts hs
  have HS := hideP hse
  have hp := Sh.word_len hw
  clear hs hse hw
  have few := hr.few
  go_enter Tryz.func88, Tryz.ntmps88
  go_wp2_with fail
  refine (pwstr h p (by omega)).mono ?_
  rintro e w1 ⟨rfl, P1, k1⟩
  go_wp2_with fail
  refine (pwbyte P1 40 (by rw [List.length_append]; omega)).mono ?_
  rintro e w2 ⟨rfl, P2, k2⟩
  have k2 := k1.trans k2
  clear P1 k1 h
  go_wp2_with fail
  go_loopw [6, 8, 20] (fun v6 _ v20 wr => ∃ (k : Nat) (T x : List UInt8), v6 = str (Sh.sep k) ∧ v20 = .int .i64 (k : Int) ∧ k ≤ ts.length ∧ Hid (T = l ++ p ++ [40] ++ x) ∧ Hid (Sh.argsS (ts.take k) = some x) ∧ PS w0 b T wr ∧ Kp b w wr) (fun _ _ v _ => ts.length - (Lib.intOf v).toNat)
  case atStart => exact ⟨0, _, [], rfl, rfl, Nat.zero_le _, (by show _ = _; rw [List.append_nil]), rfl, P2, k2⟩
  case round =>
    obtain ⟨k, T, x, rfl, rfl, hk, HT, HX, P3, k3⟩ := hrel
    have hTl : T.length ≤ l.length + 180 := by
      have := Sh.args_len (fun t ht => hi t (List.mem_of_mem_take ht)) HX.out
      rw [HT.out]
      simp only [List.length_append, List.length_cons, List.length_nil, List.length_take] at *; omega
    by_cases hlt : k < ts.length
    · have q2 : (k : Int) < (ts.length : Int) := by omega
      obtain ⟨P1, O1, rfl⟩ := hr.addr (Nat.lt_of_le_of_lt (Nat.zero_le _) hlt)
      have r1 : wr.rangeAt P1 (O1 + k * 4) (tv (ts[k]'hlt)) := (hr.below P3.low (Nat.le_refl _)).range k hlt
      obtain ⟨y, hy⟩ := Sh.args_each hm (List.getElem_mem hlt)
      have hti := hi _ (List.getElem_mem hlt)
      have hyl := Sh.term_len hti hy
      have HX2 : Hid (Sh.argsS (ts.take (k + 1)) = some (x ++ (Sh.sep k ++ y))) := by
        show _ = _
        have := Sh.args_snoc HX.out hy
        rw [List.length_take, Nat.min_eq_left hk] at this
        rw [List.take_succ_eq_append_getElem hlt]; exact this
      generalize (ts[k]'hlt) = t at *
      have TT := hideP (fun (W : World) (l' : List UInt8) (P : PS w0 b l' W) (hl : l'.length + 34 ≤ 140737488355328) => pterm_at t P hti hy hl)
      have hsk : (Sh.sep k).length ≤ 2 := by unfold Sh.sep; split <;> simp
      have hs1 : Hid (Sh.sep (k + 1) = [44, 32]) := by show _ = _; unfold Sh.sep; rw [if_neg (by omega)]
      have hne : wr.heap.size ≠ b := by have := P3.lt; omega
      clear hy HX
      generalize Sh.sep k = sk at *
      have iP : (Tryz.prog.info? 38).map (·.size) = some (tv t).length := Tryz.iT4
      go_upto_region 7 with (first
        | (refine wpList_load_mid rfl 38 _ rfl P1 (O1 + k * 4) rfl (tv t) _ r1 Tryz.underlying38 rfl iP ?_)
        | (refine wpList_store_all rfl 38 _ _ rfl wr.heap.size 4 _ 38 (tv t) rfl rfl (heap_alloc_new wr _) rfl rfl Tryz.iT4 rfl ?_; intro w4 H4 d4; have B4 := below_tok d4)
        | (go_at_call 87; refine (pwstr (P3.below B4) sk (by omega)).mono ?_; rintro e w5 ⟨rfl, P5, k5⟩; have H5 := k5 _ _ _ H4 hne (by decide)))
      go_wp2_with (refine wpList_load_all rfl 38 _ rfl wr.heap.size 4 38 (tv t) _ rfl H5 rfl Tryz.underlying38 rfl Tryz.iT4 ?_)
      refine (TT.out w5 (T ++ sk) P5 (by rw [List.length_append]; omega)).mono ?_
      rintro e w6 ⟨rfl, P6, k6⟩
      go_wp2_with fail
      refine ⟨⟨k + 1, T ++ sk ++ y, x ++ (sk ++ y), by rw [hs1.out], by go_num, by omega, ?_, HX2, P6, ((k3.below B4).trans k5).trans k6⟩, by simp [Lib.intOf]; omega⟩
      show _ = _
      rw [HT.out]; simp [List.append_assoc]
    · have q2 : ¬ (k : Int) < (ts.length : Int) := by omega
      have HXm : Hid (x = m) := by
        have := HX.out
        rw [List.take_of_length_le (by omega), hm] at this
        exact (Option.some.inj this).symm
      go_wp2_with fail
      refine (pwbyte P3 41 (by omega)).mono ?_
      rintro e w4 ⟨rfl, P4, k4⟩
      go_wp2_with fail
      go_end0
      refine ⟨rfl, ?_, k3.trans k4⟩
      rw [HS.out, ← HXm.out]
      have := HT.out
      rw [this] at P4
      simpa [List.append_assoc] using P4

set_option maxRecDepth 100000 in
set_option maxHeartbeats 2000000 in
theorem pliteral_at {w0 w : World} {b : Nat} {l s : List UInt8} (y : Lv) (h : PS w0 b l w) (hr : Lv.Aw w0 y) (hi : Sh.LIn y.l) (hs : Sh.litS y.l = some s) (hlen : l.length + 600 ≤ 140737488355328) :
    Calls Tryz.prog 90 #[ptr b, lval y] w fun e w' => e = .returned (.tuple #[]) ∧ PS w0 b (l ++ s) w' ∧ Kp b w w' := by
  obtain ⟨s1, s2, s3, h1, h2, h3, hse⟩ := Sh.lit_parts hs
  have HS := hideP hse
  have n1 := Sh.maybe_len hi.1 h1
  have n2 := Sh.atom_len hi.2.1 h2
  simp only [List.length_cons, List.length_nil] at n1
  have A0 := below_alloc w (.cells (lv y).toArray 54)
  have H0 := heap_alloc_new w (.cells (lv y).toArray 54)
  have K0 : Kp b w _ := Kp.of A0
  have P0 := h.below A0
  have hne : w.heap.size ≠ b := by have := h.lt; omega
  have T1 := hideP (pplace_at [] y.by_ [32, 115, 97, 121, 115, 32] P0 hi.1 h1 (by decide) (by decide) (by omega))
  have T2 := hideP (fun (W : World) (l' : List UInt8) (P : PS w0 b l' W) (hl : l'.length + 300 ≤ 140737488355328) => patom_at y.pred y.a y.cap y.args P hr hi.2.1 h2 hl)
  have T3 := hideP (fun (W : World) (l' : List UInt8) (P : PS w0 b l' W) (hl : l'.length + 54 ≤ 140737488355328) => pplace_at [32, 97, 116, 32] y.at_ [] P hi.2.2 h3 (by decide) (by decide) hl)
  clear hs hse h1 h2 h3
  go_enter Tryz.func90, Tryz.ntmps90
  go_wp2_with fail
  refine T1.out.mono ?_
  rintro e w1 ⟨rfl, P1, k1⟩
  have H1 := k1 _ _ _ H0 hne (by decide)
  obtain ⟨c0, c1, c2, c3, c4, c5, c6, c7, c8, c9⟩ := lit_cells9 y H1
  clear c0 c1 c2 c3 c6 c7 c8 c9
  go_wp2_with fail
  refine (T2.out w1 _ P1 (by rw [List.length_append]; omega)).mono ?_
  rintro e w2 ⟨rfl, P2, k2⟩
  have H2 := k2 _ _ _ H1 hne (by decide)
  clear c4 c5
  obtain ⟨c0, c1, c2, c3, c4, c5, c6, c7, c8, c9⟩ := lit_cells9 y H2
  clear c0 c1 c2 c3 c4 c5
  go_wp2_with fail
  refine (T3.out w2 _ P2 (by simp only [List.length_append]; omega)).mono ?_
  rintro e w3 ⟨rfl, P3, k3⟩
  go_wp2_with fail
  go_end0
  refine ⟨rfl, ?_, ((K0.trans k1).trans k2).trans k3⟩
  rw [HS.out]
  simpa [List.append_assoc] using P3

set_option maxRecDepth 100000 in
set_option maxHeartbeats 4000000 in
theorem prule_at {w0 w : World} {b : Nat} {l s : List UInt8} (x : Rv) (h : PS w0 b l w) (hr : Rv.Aw w0 x) (hi : Sh.RIn x.r) (hs : Sh.ruleS x.r = some s) (hlen : l.length + 3000 ≤ 140737488355328) :
    Calls Tryz.prog 53 #[ptr b, rval x] w fun e w' => e = .returned (.tuple #[]) ∧ PS w0 b (l ++ s) w' ∧ Kp b w w' := by
  obtain ⟨s1, s2, s3, s4, g1, g2, h1, h2, h3, h4, hse⟩ := Sh.rule_parts hs
  have HS := hideP hse
  have i1 : Sh.KIn x.home := hi.1
  have i2 : ∀ t ∈ x.args, Sh.KIn t := hi.2.1
  have i3 : Sh.KIn x.to_ := hi.2.2.1
  have i4 : ∀ y ∈ x.body, Sh.LIn y.l := fun y hy => hi.2.2.2 _ (List.mem_map_of_mem hy)
  have h1 : Sh.termS x.home = some s1 := h1
  have h2 : Sh.atomS x.pred x.args = some s2 := h2
  have h3 : Sh.maybeS [32, 116, 111, 32] x.to_ [] = some s3 := h3
  have h4 : Sh.litsS (x.body.map Lv.l) = some s4 := h4
  have g1 : 1 ≤ x.body.length := by have : (x.body.map Lv.l).length = x.body.length := List.length_map ..; rw [← this]; exact g1
  have g2 : x.body.length ≤ 4 := by have : (x.body.map Lv.l).length = x.body.length := List.length_map ..; rw [← this]; exact g2
  have n1 := Sh.term_len i1 h1
  have n2 := Sh.atom_len i2 h2
  have n3 := Sh.maybe_len i3 h3
  simp only [List.length_cons, List.length_nil] at n3
  obtain ⟨r1, r2, r3⟩ := hr
  have A0 := below_alloc w (.cells (rv x).toArray 42)
  have H0 := heap_alloc_new w (.cells (rv x).toArray 42)
  have K0 : Kp b w _ := Kp.of A0
  have P0 := h.below A0
  have hne : w.heap.size ≠ b := by have := h.lt; omega
  have T1 := hideP (pterm_at x.home P0 i1 h1 (by omega))
  have T2 := hideP (fun (W : World) (l' : List UInt8) (P : PS w0 b l' W) (hl : l'.length + 300 ≤ 140737488355328) => patom_at x.pred x.a x.cap x.args P r1 i2 h2 hl)
  have T3 := hideP (fun (W : World) (l' : List UInt8) (P : PS w0 b l' W) (hl : l'.length + 54 ≤ 140737488355328) => pplace_at [32, 116, 111, 32] x.to_ [] P i3 h3 (by decide) (by decide) hl)
  have few := r2.few
  clear hs hse h1 h2 h3 r1 hi
  go_enter Tryz.func53, Tryz.ntmps53
  go_wp2_with fail
  refine T1.out.mono ?_
  rintro e w1 ⟨rfl, P1, k1⟩
  have H1 := k1 _ _ _ H0 hne (by decide)
  go_wp2_with fail
  refine (pwstr P1 [58, 32] (by simp only [List.length_append, List.length_cons, List.length_nil]; omega)).mono ?_
  rintro e w2 ⟨rfl, P2, k2⟩
  have H2 := k2 _ _ _ H1 hne (by decide)
  obtain ⟨c0, c1, c2, c3, c4, c5, c6, c7, c8, c9, c10⟩ := rule_cells9 x H2
  clear c0 c1 c2 c3 c6 c7 c8 c9 c10
  go_wp2_with fail
  refine (T2.out w2 _ P2 (by simp only [List.length_append, List.length_cons, List.length_nil]; omega)).mono ?_
  rintro e w3 ⟨rfl, P3, k3⟩
  have H3 := k3 _ _ _ H2 hne (by decide)
  clear c4 c5
  obtain ⟨c0, c1, c2, c3, c4, c5, c6, c7, c8, c9, c10⟩ := rule_cells9 x H3
  clear c0 c1 c2 c3 c4 c5 c10
  go_wp2_with fail
  refine (T3.out w3 _ P3 (by simp only [List.length_append, List.length_cons, List.length_nil]; omega)).mono ?_
  rintro e w4 ⟨rfl, P4, k4⟩
  have H4 := k4 _ _ _ H3 hne (by decide)
  clear c6 c7 c8 c9
  have c10 := (rule_cells9 x H4).2.2.2.2.2.2.2.2.2.2
  have K4 := (((K0.trans k1).trans k2).trans k3).trans k4
  have HB : Hid (l ++ s1 ++ [58, 32] ++ s2 ++ s3 = l ++ (s1 ++ (58 :: 32 :: (s2 ++ s3)))) := by show _ = _; simp [List.append_assoc]
  have nB : (l ++ s1 ++ [58, 32] ++ s2 ++ s3).length ≤ l.length + 300 := by simp only [List.length_append, List.length_cons, List.length_nil]; omega
  generalize l ++ s1 ++ [58, 32] ++ s2 ++ s3 = Bt at *
  clear P0 P1 P2 P3 k1 k2 k3 k4 T1 T2 T3 H0 H1 H2 H3 K0 A0 h
  generalize x.body = ls at *
  generalize x.ba = ba at *
  generalize x.bcap = bc at *
  go_wp2_with fail
  go_loopw [4, 6, 28] (fun v4 _ v28 wr => ∃ (k : Nat) (T m : List UInt8), v4 = str (if k = 0 then [32, 58, 45, 32] else [44, 32]) ∧ v28 = .int .i64 (k : Int) ∧ k ≤ ls.length ∧ Hid (T = Bt ++ (if k = 0 then [] else [32, 58, 45, 32] ++ m)) ∧ Hid (Sh.litsS ((ls.take k).map Lv.l) = some m) ∧ PS w0 b T wr ∧ Kp b w wr) (fun _ _ v _ => ls.length - (Lib.intOf v).toNat)
  case atStart => exact ⟨0, _, [], rfl, rfl, Nat.zero_le _, (by show _ = _; simp), rfl, P4, K4⟩
  case round =>
    obtain ⟨k, T, m, rfl, rfl, hk, HT, HX, P5, k5⟩ := hrel
    have hTl : T.length ≤ l.length + 1500 := by
      have h5 := Sh.lits_len (fun t ht => by
        obtain ⟨y, hy, rfl⟩ := List.mem_map.1 ht
        exact i4 y (List.mem_of_mem_take hy)) HX.out
      rw [HT.out]
      rw [List.length_map, List.length_take] at h5
      split <;> simp only [List.length_append, List.length_cons, List.length_nil] at * <;> omega
    by_cases hlt : k < ls.length
    · have q2 : (k : Int) < (ls.length : Int) := by omega
      obtain ⟨P1, O1, rfl⟩ := r2.addr (Nat.lt_of_le_of_lt (Nat.zero_le _) hlt)
      have r1 : wr.rangeAt P1 (O1 + k * 10) (lv (ls[k]'hlt)) := (r2.below P5.low (Nat.le_refl _)).range k hlt
      have aP := r3 _ (List.getElem_mem hlt)
      have hyi := i4 _ (List.getElem_mem hlt)
      obtain ⟨z, hz⟩ := Sh.lits_each h4 (List.mem_map_of_mem (List.getElem_mem hlt))
      have HX2 : Hid (Sh.litsS ((ls.take (k + 1)).map Lv.l) = some (m ++ (Sh.sep k ++ z))) := by
        show _ = _
        have := Sh.lits_snoc HX.out hz
        rw [List.length_map, List.length_take, Nat.min_eq_left hk] at this
        rw [List.take_succ_eq_append_getElem hlt, List.map_append]; exact this
      have HM : Hid (k = 0 → m = []) := fun h0 => by
        have := HX.out
        rw [h0] at this
        exact (Option.some.inj this).symm
      generalize (ls[k]'hlt) = y at *
      have TT := hideP (fun (W : World) (l' : List UInt8) (P : PS w0 b l' W) (hl : l'.length + 600 ≤ 140737488355328) => pliteral_at y P aP hyi hz hl)
      have HA : Hid (Bt ++ (if k = 0 then [] else [32, 58, 45, 32] ++ m) ++ (if k = 0 then [32, 58, 45, 32] else [44, 32]) ++ z = Bt ++ ([32, 58, 45, 32] ++ (m ++ (Sh.sep k ++ z)))) := by
        show _ = _
        by_cases h0 : k = 0
        · rw [HM.out h0]; simp [h0, Sh.sep]
        · simp [h0, Sh.sep]
      have hsk : (if k = 0 then [32, 58, 45, 32] else [44, 32] : List UInt8).length ≤ 4 := by split <;> simp
      have hne' : wr.heap.size ≠ b := by have := P5.lt; omega
      clear hz HX HM
      generalize (if k = 0 then [32, 58, 45, 32] else [44, 32] : List UInt8) = sk at *
      have iP : (Tryz.prog.info? 54).map (·.size) = some (lv y).length := Tryz.iL10
      go_upto_region 10 with (first
        | (refine wpList_load_mid rfl 54 _ rfl P1 (O1 + k * 10) rfl (lv y) _ r1 Tryz.underlying54 rfl iP ?_)
        | (refine wpList_store_all rfl 54 _ _ rfl wr.heap.size 10 _ 54 (lv y) rfl rfl (heap_alloc_new wr _) rfl rfl Tryz.iL10 rfl ?_; intro w6 H6 d6; have B6 := below_tok d6)
        | (go_at_call 87; refine (pwstr (P5.below B6) sk (by omega)).mono ?_; rintro e w7 ⟨rfl, P7, k7⟩; have H7 := k7 _ _ _ H6 hne' (by decide)))
      go_wp2_with (refine wpList_load_all rfl 54 _ rfl wr.heap.size 10 54 (lv y) _ rfl H7 rfl Tryz.underlying54 rfl Tryz.iL10 ?_)
      refine (TT.out w7 (T ++ sk) P7 (by rw [List.length_append]; omega)).mono ?_
      rintro e w8 ⟨rfl, P8, k8⟩
      go_wp2_with fail
      refine ⟨⟨k + 1, T ++ sk ++ z, m ++ (Sh.sep k ++ z), by rw [if_neg (by omega)], by go_num, by omega, ?_, HX2, P8, ((k5.below B6).trans k7).trans k8⟩, by simp [Lib.intOf]; omega⟩
      show _ = _
      rw [HT.out, if_neg (show ¬ k + 1 = 0 by omega), HA.out]
    · have q2 : ¬ (k : Int) < (ls.length : Int) := by omega
      have HXm : Hid (m = s4) := by
        have := HX.out
        rw [List.take_of_length_le (by omega), h4] at this
        exact (Option.some.inj this).symm
      have k0 : ¬ k = 0 := by omega
      go_wp2_with fail
      refine (pwbyte P5 46 (by omega)).mono ?_
      rintro e w6 ⟨rfl, P6, k6⟩
      go_wp2_with fail
      go_end0
      refine ⟨rfl, ?_, k5.trans k6⟩
      rw [HS.out]
      have := HT.out
      rw [if_neg k0, HB.out, HXm.out] at this
      rw [this] at P6
      simpa [List.append_assoc] using P6
end Go.Proofs.YtefajadolgmpdaaGreatDoor
