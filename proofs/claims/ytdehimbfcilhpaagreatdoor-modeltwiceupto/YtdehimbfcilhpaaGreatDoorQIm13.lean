/-
  slices.Clone of facts.
-/
import Derived.Deep.AppendLies
import Derived.Lib.SliceRun
import Derived.Laws.CopyRow
import Derived.Shelf.Spec.SlicesInsert
import Derived.Test.YtdehimbfcilhpaaGreatDoorQLg12
import Derived.Test.YtdehimbfcilhpaaGreatDoorQWith
namespace Go.Proofs.YtdehimbfcilhpaaGreatDoor
open Go.RowKit Go.Lib Go.Shelf

theorem ownsF_empty (w : World) : (w.alloc (.cells #[] 36)).ownsRow w.heap.size 36 4 (.slice (some ⟨w.heap.size, 0, none⟩) 0 0) ([] : List Fv).length (fcells []) :=
  ⟨rfl, .inr ⟨w.heap.size, 0, #[], rfl, Nat.le_refl _, heap_alloc_new w _, Nat.le_refl _, Nat.zero_le _, rfl, rfl⟩⟩

set_option maxRecDepth 100000 in
theorem cloneF_at (a : Option Addr) (c : Nat) (xs : List Fv) (w : World) (hl : Lies w a c xs) :
    Calls Tryz.prog 63 #[.slice a xs.length c] w fun e w' => ∃ v, e = .returned v ∧ w'.ownsRow w.heap.size 36 4 v xs.length (fcells xs) ∧ Below w.heap.size w w' := by
  have few := hl.few
  have hnil : ∀ (w : World) (a : Option Addr) (n c : Nat), (binOp .eql 24 (.slice a n c) (.slice none 0 0)).run Tryz.prog w = .ok (.bool a.isNone) w := fun w a n c => Lib.run_eql_slice_nil w 24 _ a n c 0 0 Tryz.underlying24
  cases a with
  | none =>
    obtain ⟨rfl, rfl⟩ := hl.void rfl
    go_enter Tryz.func63, Tryz.ntmps63
    go_wp2_with fail
    go_ret
    exact ⟨_, rfl, ⟨rfl, .inl ⟨rfl, rfl⟩⟩, Below.refl _ _⟩
  | some ad =>
    have O1 := ownsF_empty w
    have A1 := below_alloc w (.cells #[] 36)
    have L1 := hl.below A1 (Nat.le_refl _)
    have S1 : w.heap.size ≤ (w.alloc (.cells #[] 36)).heap.size := A1.size
    go_enter Tryz.func63, Tryz.ntmps63
    go_wp2_with (at_builtin; refine wpList_append_fs _ rfl _ _ rfl w.heap.size (.slice (some ⟨w.heap.size, 0, none⟩) 0 0) [] xs (some ad) c rfl O1 rfl L1 S1 (by simpa using few) ?ap)
    case ap =>
      intro v w2 ho hg
      have B2 : Below w.heap.size w w2 := A1.trans ((Below.refl _ _).grown hg S1 (fun k hk => by cases hk; exact Nat.le_refl _))
      go_wp2_with fail
      go_ret
      exact ⟨v, rfl, by simpa using ho, B2⟩
end Go.Proofs.YtdehimbfcilhpaaGreatDoor

/-
  copy between rows of records of k cells each.
-/
namespace Go.Proofs.YtdehimbfcilhpaaGreatDoor
open Go.RowKit Go.Lib Go.Shelf

/-- copy(d, s) at elements of k cells: the cells of the first elements of s, as many as there are in both, stand in d -/
theorem run_copy_k {P : Program} (w : World) (dT sT ty elem : TypeId) (k g o dLen dCap n : Nat) (a : Addr) (sLen sCap : Nat) (cur : Array Value) (t : TypeId) (cs : List Value)
    (hu : P.underlying dT = some (.slice elem)) (hs : (P.info? elem).map (·.size) = some k)
    (hg : w.heap[g]? = some (.cells cur t (0, 0))) (hn : n = Nat.min sLen dLen) (hl : cs.length = n * k)
    (hsrc : ∀ j v, cs[j]? = some v → w.cell? (a.add j) = some v) (hfit : o + cs.length ≤ cur.size) (h1 : ∀ v ∈ cs, v.oneCell' = true) :
    (Builtin.copy_ #[dT, sT] ty #[.slice (some ⟨g, o, none⟩) dLen dCap, .slice (some a) sLen sCap]).run P w =
      .ok (goInt n) (w.setRow g (cur.toList.take o ++ cs ++ cur.toList.drop (o + cs.length)).toArray) := by
  have h2 := run_loadCells_list (P := P) w a cs hsrc
  have h3 := run_storeCells_at P g o t cs 0 cur w hg (by simpa using hfit) h1
  rw [hl] at h2
  cases hq : P.info? elem with
  | none => simp [hq] at hs
  | some i =>
    have hi : i.size = k := by simpa [hq] using hs
    simp [Builtin.copy_, run_underlying hu, Builtin.lenOf, Builtin.firstCells, sizeOf, typeInfo, hq, hi, ← hn, h2, h3]
end Go.Proofs.YtdehimbfcilhpaaGreatDoor

/-
  slices.Insert of one fact, at the end.
-/
namespace Go.Proofs.YtdehimbfcilhpaaGreatDoor
open Go.RowKit Go.Lib Go.Shelf

theorem grown_cap {w w' : World} {a : Option Addr} {n c c' : Nat} (h : w.grownBy w' (Value.slice a n c).ownBlock) : w.grownBy w' (Value.slice a n c').ownBlock := by
  cases a with
  | none => exact h
  | some _ => exact h

set_option maxRecDepth 100000 in
theorem insertEnd_at (B : Nat) (a : Option Addr) (c : Nat) (ys : List Fv) (xa : Option Addr) (xc : Nat) (x : Fv) (w : World) (ho : w.ownsRow B 36 4 (.slice a ys.length c) ys.length (fcells ys)) (hB : B ≤ w.heap.size) (hf : ys.length ≤ 1000000) (hx : Lies w xa xc [x]) :
    Calls Tryz.prog 64 #[.slice a ys.length c, .int .i64 (ys.length : Int), .slice xa 1 xc] w fun e w' => ∃ v, e = .returned v ∧ w'.ownsRow B 36 4 v (ys ++ [x]).length (fcells (ys ++ [x])) ∧ w.grownBy w' (Value.slice a ys.length c).ownBlock := by
  obtain ⟨a', c', he, hO⟩ := own_facts ho (by omega)
  cases he
  have room := hO.room
  have most := hO.most
  have fits : ys.length + [x].length ≤ 1954687338211 := by simp; omega
  go_enter Tryz.func64, Tryz.ntmps64
  go_wp2_with (at_builtin; refine wpList_append_fs _ rfl _ _ rfl B (.slice a ys.length c) ys [x] xa xc rfl ho rfl hx hB fits ?ap)
  all_goals
    intro v w2 ho2 hg
    have ho3 : w2.ownsRow B 36 4 v (ys ++ [x]).length (fcells (ys ++ [x])) := by simpa using ho2
    have HG := hideP ho3
    have HH := hideP hg
    clear ho2 ho3 hg
    go_wp2_with fail
    go_ret
    exact ⟨v, rfl, HG.out, grown_cap HH.out⟩
end Go.Proofs.YtdehimbfcilhpaaGreatDoor

/-
  slices.Insert of one fact, in the midst, where there is room.
-/
namespace Go.Proofs.YtdehimbfcilhpaaGreatDoor
open Go.RowKit Go.Lib Go.Shelf

/-- the row where the facts from i on are moved by one -/
def midA (cur : Array Value) (i : Nat) (ys : List Fv) : Array Value := (cur.toList.take ((i + 1) * 4) ++ fcells (ys.drop i) ++ cur.toList.drop ((i + 1) * 4 + (fcells (ys.drop i)).length)).toArray
/-- .. and x laid at i -/
def midB (cur : Array Value) (i : Nat) (ys : List Fv) (x : Fv) : Array Value := ((midA cur i ys).toList.take (i * 4) ++ fv x ++ (midA cur i ys).toList.drop (i * 4 + (fv x).length)).toArray
theorem fcells_drop (xs : List Fv) (i : Nat) (h : i ≤ xs.length) : fcells (xs.drop i) = (fcells xs).drop (i * 4) := by
  have e := congrArg fcells (List.take_append_drop i xs)
  rw [fcells_append] at e
  have l : (fcells (xs.take i)).length = i * 4 := by rw [fcells_len, List.length_take, Nat.min_eq_left h]
  rw [← e, ← l, List.drop_left]

set_option maxRecDepth 100000 in
set_option maxHeartbeats 1000000 in
theorem insertMid_at (b c i vb : Nat) (cur : Array Value) (x : Fv) (ys : List Fv) (w : World) (hi : i < ys.length) (hroom : ys.length + 1 ≤ c) (hn : ys.length ≤ 1000000) (hvb : vb ≠ b)
    (hg : w.heap[b]? = some (.cells cur 36)) (hsz : cur.size = c * 4) (hcur : cur.toList.take (ys.length * 4) = fcells ys) (hv : w.heap[vb]? = some (.cells (fv x).toArray 36)) :
    Calls Tryz.prog 64 #[.slice (some ⟨b, 0, none⟩) ys.length c, .int .i64 (i : Int), .slice (some ⟨vb, 0, none⟩) 1 1] w fun e w' => e = .returned (.slice (some ⟨b, 0, none⟩) (ys.length + 1) c) ∧ w' = (w.drew.setRow b (midA cur i ys)).setRow b (midB cur i ys x) := by
  have hz2 : ¬ ((i : Int) = (ys.length : Int)) := by omega
  have hov : ∀ o lb cb, (callFunc 86 #[.slice (some ⟨vb, 0, none⟩) 1 1, .slice (some ⟨b, o, none⟩) lb cb]).run Tryz.prog w = .ok (.value (.bool false)) w := fun o lb cb => by
    rw [run_callFunc_extern Tryz.func86 (by kernel_rfl) (by kernel_rfl) (by kernel_rfl) (e := Extern.SlicesOverlaps.overlaps #[24, 24] #[4]) (by kernel_rfl),
      Lib.run_overlaps_apart w 24 4 36 Tryz.underlying24 4 (fun _ => by kernel_rfl) ⟨vb, 0, none⟩ ⟨b, o, none⟩ 1 1 lb cb hvb 36 36 4 (c * 4) (by simp [World.shape?, hv, fv]) (by simp [World.shape?, hg, hsz]) (by omega) (heap_frozen hv _) (heap_frozen hv _)]
    rfl
  have mixed : Tryz.prog.follows .mixedOrders = true := by kernel_rfl
  have iF : (Tryz.prog.info? 36).map (·.size) = some 4 := by kernel_rfl
  have hD := fcells_drop ys i (by omega)
  have hDl : (fcells (ys.drop i)).length = (ys.length - i) * 4 := by rw [fcells_len, List.length_drop]
  have hcp1 : ∀ ty dc sc, (Builtin.copy_ #[24, 24] ty #[.slice (some ⟨b, (i + 1) * 4, none⟩) (ys.length - i) dc, .slice (some ⟨b, i * 4, none⟩) (ys.length + 1 - i) sc]).run Tryz.prog w.drew = .ok (goInt ((ys.length - i : Nat) : Int)) (w.drew.setRow b (midA cur i ys)) := fun ty dc sc =>
    run_copy_k w.drew _ _ ty 36 4 b ((i + 1) * 4) (ys.length - i) dc (ys.length - i) ⟨b, i * 4, none⟩ (ys.length + 1 - i) sc cur 36 (fcells (ys.drop i)) Tryz.underlying24 iF hg (by simp only [Nat.min_def]; split <;> omega) hDl
      (fun j v hj => by
        rw [hD, ← hcur, List.getElem?_drop] at hj
        have hlt : i * 4 + j < ys.length * 4 := by
          have := (List.getElem?_eq_some_iff.1 hj).1
          rw [List.length_take] at this; omega
        rw [List.getElem?_take_of_lt hlt] at hj
        rw [Addr.add_lit, show w.drew.cell? ⟨b, i * 4 + j, none⟩ = cur[i * 4 + j]? from heap_cell (w := w.drew) hg _]
        simpa using hj)
      (by rw [hDl, hsz]; omega) (fcells_one _)
  have hA : ((w.drew.setRow b (midA cur i ys))).heap[b]? = some (.cells (midA cur i ys) 36) := setRow_heap w.drew b cur _ _ _ hg
  have hAv : ((w.drew.setRow b (midA cur i ys))).heap[vb]? = some (.cells (fv x).toArray 36) := by
    rw [setRow_other _ _ _ _ hvb]; exact hv
  have hAs : (midA cur i ys).size = c * 4 := by
    have := hDl
    simp [midA, hsz, hDl]; omega
  have hcp2 : ∀ ty dc, (Builtin.copy_ #[24, 24] ty #[.slice (some ⟨b, i * 4, none⟩) (ys.length + 1 - i) dc, .slice (some ⟨vb, 0, none⟩) 1 1]).run Tryz.prog (w.drew.setRow b (midA cur i ys)) = .ok (goInt 1) ((w.drew.setRow b (midA cur i ys)).setRow b (midB cur i ys x)) := fun ty dc =>
    run_copy_k _ _ _ ty 36 4 b (i * 4) (ys.length + 1 - i) dc 1 ⟨vb, 0, none⟩ 1 1 (midA cur i ys) 36 (fv x) Tryz.underlying24 iF hA (by simp only [Nat.min_def]; split <;> omega) rfl
      (fun j v hj => by
        rw [Addr.add_lit, heap_cell hAv]
        simpa using hj)
      (by rw [hAs]; simp [fv]; omega) (fun u hu => fcells_one [x] u (by simpa [fcells] using hu))
  have hw1 : IntKind.i64.wrap ((i : Int) + 1) = (i : Int) + 1 := by rw [IntKind.wrap_i64]; omega
  have hb1 : (0 : Int) ≤ (i : Int) + 1 := by omega
  have hb5 : (i : Int) + 1 ≤ (ys.length : Int) + 1 := by omega
  have hin : i ≤ ys.length := by omega
  have hlt : (i : Int) ≤ (ys.length : Int) := by omega
  have htn : ((i : Int) + 1).toNat = i + 1 := by omega
  have hb2 : ¬ (c = i + 1) := by omega
  have hb3 : (i : Int) ≤ (ys.length : Int) + 1 := by omega
  have hb4 : ¬ (c = i) := by omega
  generalize hW1 : w.drew.setRow b (midA cur i ys) = W1 at *
  go_enter Tryz.func64, Tryz.ntmps64
  go_wp2_with (simp only [hov])
  go_region_law_o (refine step_copy_runI rfl _ _ 24 24 rfl _ _ (by simp [Act.eval, Act.put]) (by simp [Act.eval, Act.put]) (hcp1 _ _ _) ?_)
  go_wp2_with (at_builtin; refine wpList_copy_runI _ rfl _ _ 24 24 rfl _ _ rfl rfl (hcp2 _ _) ?_)
  go_ret
  exact ⟨rfl, rfl⟩
end Go.Proofs.YtdehimbfcilhpaaGreatDoor

/-
  The row behind an insertion.
-/
namespace Go.Proofs.YtdehimbfcilhpaaGreatDoor
open Go.RowKit Go.Lib Go.Shelf

theorem midA_size {cur : Array Value} {i c : Nat} {ys : List Fv} (hi : i < ys.length) (hroom : ys.length + 1 ≤ c) (hsz : cur.size = c * 4) : (midA cur i ys).size = c * 4 := by
  have hDl : (fcells (ys.drop i)).length = (ys.length - i) * 4 := by rw [fcells_len, List.length_drop]
  simp [midA, hsz, hDl]; omega
theorem midB_size {cur : Array Value} {i c : Nat} {ys : List Fv} {x : Fv} (hi : i < ys.length) (hroom : ys.length + 1 ≤ c) (hsz : cur.size = c * 4) : (midB cur i ys x).size = c * 4 := by
  have h := midA_size hi hroom hsz
  have hx : (fv x).length = 4 := rfl
  simp [midB, h, hx]; omega
theorem midB_cells {cur : Array Value} {i c : Nat} {ys : List Fv} {x : Fv} (hi : i < ys.length) (hroom : ys.length + 1 ≤ c) (hsz : cur.size = c * 4) (hcur : cur.toList.take (ys.length * 4) = fcells ys) :
    (midB cur i ys x).toList.take ((ys.length + 1) * 4) = fcells (ys.take i ++ x :: ys.drop i) := by
  have hDl : (fcells (ys.drop i)).length = (ys.length - i) * 4 := by rw [fcells_len, List.length_drop]
  have hx : (fv x).length = 4 := rfl
  have hl : cur.toList.length = c * 4 := by simpa using hsz
  have e0 : fcells (ys.take i ++ x :: ys.drop i) = fcells (ys.take i) ++ fv x ++ fcells (ys.drop i) := by
    rw [fcells_append]; simp [fcells]
  have e1 : fcells (ys.take i) = cur.toList.take (i * 4) := by
    have e := congrArg fcells (List.take_append_drop i ys)
    rw [fcells_append] at e
    have l : (fcells (ys.take i)).length = i * 4 := by rw [fcells_len, List.length_take, Nat.min_eq_left (by omega)]
    have : fcells (ys.take i) = (fcells ys).take (i * 4) := by rw [← e, ← l, List.take_left]
    rw [this, ← hcur, List.take_take, Nat.min_eq_left (by omega)]
  have hA : (midA cur i ys).toList = cur.toList.take ((i + 1) * 4) ++ (fcells (ys.drop i) ++ cur.toList.drop ((i + 1) * 4 + (ys.length - i) * 4)) := by
    simp [midA, hDl]
  have hT : (cur.toList.take ((i + 1) * 4)).length = (i + 1) * 4 := by rw [List.length_take, hl]; omega
  have a1 : (midA cur i ys).toList.take (i * 4) = cur.toList.take (i * 4) := by
    rw [hA, List.take_append_of_le_length (by rw [hT]; omega), List.take_take, Nat.min_eq_left (by omega)]
  have a2 : (midA cur i ys).toList.drop (i * 4 + 4) = fcells (ys.drop i) ++ cur.toList.drop ((i + 1) * 4 + (ys.length - i) * 4) := by
    rw [hA, show i * 4 + 4 = (cur.toList.take ((i + 1) * 4)).length by rw [hT]; omega, List.drop_left]
  have hB : (midB cur i ys x).toList = (cur.toList.take (i * 4) ++ fv x ++ fcells (ys.drop i)) ++ cur.toList.drop ((i + 1) * 4 + (ys.length - i) * 4) := by
    rw [midB, hx, a1, a2]; simp
  rw [hB, e0, e1]
  exact List.take_left' (by simp [hx, hDl, hl]; omega)
end Go.Proofs.YtdehimbfcilhpaaGreatDoor
