/-
  Tokens in memory; the program's word.
-/
import Derived.Test.YtcncmpgababfjaaDoorQEo
namespace Go.Proofs.YtcncmpgababfjaaDoor
open Go.RowKit Go.Lib Go.Shelf

def tokv (t : Lx.Tok) : List Value := [.int .i64 t.kind, str t.text, .int .i64 t.n, .int .i64 (t.pl : Int)]
def kT : Kd Lx.Tok := ⟨tokv, 4, fun _ => rfl, fun _ => rfl, by decide⟩
def pz : Lx.Tok := ⟨0, [], 0, 0⟩
/-- what the program's functions of one token answer -/
def pres : Option (Lx.Tok × Nat) → Lx.Tok × Nat × Int
  | none => (pz, 0, 70)
  | some (t, e) => if 32 < t.text.length then (pz, 0, 71) else (t, e, 0)
def tokR (r : Lx.Tok × Nat × Int) : Ending := .returned (.tuple #[.agg (tokv r.1).toArray, .int .i64 (r.2.1 : Int), .int .i64 r.2.2])

theorem results_cell_two {P : Program} {fn : Func} {p q r : Tmp} {ty : TypeId} {tmps : Array Value} {w : World} {b : Nat} {C : Array Value} {d : TypeDesc} {T : TypeId} (h : fn.results = #[.cell p ty, .tmp q, .tmp r]) (hp : tmps.getD p undef = .pointer (some ⟨b, 0, none⟩)) (hc : w.heap[b]? = some (.cells C T))
    (hu : P.underlying ty = some d) (hd : d.isRow = true) (hi : (P.info? ty).map (·.size) = some C.size) : (results fn tmps).run P w = .ok (.tuple #[.agg C, tmps.getD q undef, tmps.getD r undef]) w := by
  have hr : w.rangeAt b 0 C.toList := by
    have := World.rangeAt_of_block hc 0 C.size
    simpa using this
  simp only [Array.getD_eq_getD_getElem?] at hp ⊢
  simp only [results, h]
  simp [asAddr, hp, run_loadVar_mid w b 0 ty C.toList d hr hu hd (by simpa using hi)]
theorem extract_sub (l : List UInt8) (i j : Nat) (_h : j ≤ l.length) : (⟨l.toArray⟩ : ByteArray).extract i j = ⟨(Lx.sub l i j).toArray⟩ := by
  apply ByteArray.ext
  simp only [ByteArray.data_extract, Lx.sub]
  apply Array.ext'
  simp [List.extract_eq_take_drop]
abbrev zTok : Obj := .cells #[.int .i64 0, .string .empty, .int .i64 0, .int .i64 0] 68


set_option maxRecDepth 100000 in
set_option maxHeartbeats 1000000 in
theorem word_at (k : Int) (l : List UInt8) (i : Nat) (w : World) (hr : l.length ≤ 281474976710656) (hi : i ≤ l.length) :
    Calls Tryd.prog 30 #[str l, .int .i64 (i : Int), .int .i64 k] w fun e w' => e = tokR (pres (Lx.word k l i)) ∧ Below w.heap.size w w' := by
  have hsz := str_size l
  have iN : (Tryd.prog.info? 68).map (·.size) = some 4 := by kernel_rfl
  have E := hideP (fun w => endOf_at 44 Lx.inner linner_at l i w enter_word1 hr hi)
  have R1 := Lx.run_le Lx.inner hi
  have R2 := Lx.le_run Lx.inner l i
  have hw : Lx.word k l i = some (⟨k, Lx.sub l i (Lx.run Lx.inner l i), 0, i⟩, Lx.run Lx.inner l i) := rfl
  have hs := extract_sub l i (Lx.run Lx.inner l i) R1
  have hl := Lx.sub_length (i := i) R1
  generalize Lx.run Lx.inner l i = j at *
  have HW := hideP hw
  clear hw
  have H0 := heap_alloc_new w zTok
  have B0 := below_alloc w zTok
  go_enter Tryd.func30, Tryd.ntmps30
  go_wp2_with (first
    | (go_at_call 27; refine (E.out _).mono ?_; rintro e w1 ⟨rfl, rfl⟩)
    | (refine wpList_store_all rfl 68 _ _ rfl w.heap.size 4 _ 68 _ rfl rfl H0 rfl rfl iN rfl ?_; intro w4 H4 b4))
  all_goals refine bodyPost_ret (results_cell_two rfl rfl H4 Tryd.underlying68 rfl (by kernel_rfl)) rfl ⟨?_, below_tok b4⟩
  · rw [HW.out, pres, if_pos (by simp only [hl]; omega)]; rfl
  · rw [HW.out, pres, if_neg (by simp only [hl]; omega)]; rfl
end Go.Proofs.YtcncmpgababfjaaDoor
