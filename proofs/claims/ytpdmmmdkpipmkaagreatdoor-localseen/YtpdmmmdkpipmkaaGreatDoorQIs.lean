/-
  The program's functions that tell whether a term, an atom, a rule can be shown.
-/
import Derived.Test.YtpdmmmdkpipmkaaGreatDoorQCc
import Derived.Test.YtpdmmmdkpipmkaaGreatDoorQLs9
import Derived.Test.YtpdmmmdkpipmkaaGreatDoorQTk
namespace Go.Proofs.YtpdmmmdkpipmkaaGreatDoor
open Go.RowKit Go.Lib Go.Shelf

set_option maxRecDepth 100000 in
set_option maxHeartbeats 1000000 in
theorem ltokens_any (l : List UInt8) (w : World) (hL : Laid w) : Calls Tryz.prog 39 #[str l] w (TokAns l w) := by
  by_cases hbig : 4096 < l.length
  · have hsz := str_size l
    have hb' : (l.length : Int) > 4096 := by omega
    have ha : Lx.ans l = .error (0, 3) := by unfold Lx.ans; rw [if_pos hbig]
    have HA := hideP ha
    clear ha
    go_enter Tryz.func39, Tryz.ntmps39
    go_wp2_with fail
    go_ret3
    exact tokAns_err HA.out (Below.refl _ _)
  · exact ltokens_at l w (by omega) hL

set_option maxRecDepth 100000 in
set_option maxHeartbeats 1000000 in
theorem isToken_at (l : List UInt8) (k : Int) (own : List UInt8) (w : World) (hL : Laid w) :
    Calls Tryz.prog 201 #[str l, .int .i64 k, str own] w fun e w' => e = .returned (.bool (Sh.isTok l k own)) ∧ Below w.heap.size w w' := by
  have T := hideP (ltokens_any l w hL)
  go_enter Tryz.func201, Tryz.ntmps201
  go_wp2_with fail
  refine T.out.mono ?_
  rintro e w1 ⟨⟨a1, c1, rfl, r1, _⟩, b1⟩
  clear T
  have HI : Hid (Sh.isTok l k own = match Lx.toks (Lx.ans l) with | [t] => (t.kind == k) && (t.text == own) | _ => false) := rfl
  generalize Lx.toks (Lx.ans l) = L at *
  generalize (Lx.place (Lx.ans l) : Int) = p at *
  generalize Lx.err (Lx.ans l) = er at *
  have few := r1.row.few
  match L with
  | [] =>
    simp only [List.length_nil] at *
    go_wp2_with fail
    go_ret
    exact ⟨ret_bool HI.out.symm, b1⟩
  | t :: u :: r =>
    simp only [List.length_cons] at *
    have q : (((r.length + 1 + 1 : Nat) : Int) == 1) = false := by simp; omega
    go_wp2_with fail
    go_ret
    exact ⟨ret_bool HI.out.symm, b1⟩
  | [t] =>
    obtain ⟨P, O, rfl⟩ := r1.row.addr (by simp)
    have hroom := r1.row.room
    have q := r1.row.range 0 (by simp)
    have q0 := q 0 _ rfl
    have q1 := q 1 _ rfl
    simp only [List.length_cons, List.length_nil, List.getElem_cons_zero, Nat.zero_mul, Nat.add_zero] at q0 q1 hroom ⊢
    simp only [] at HI
    by_cases hk : t.kind = k
    · have hk' : (t.kind == k) = true := by simpa using hk
      rw [hk', Bool.true_and] at HI
      clear hk
      go_wp2_with fail
      go_ret
      exact ⟨ret_bool HI.out.symm, b1⟩
    · have hk' : (t.kind == k) = false := by simpa using hk
      rw [hk', Bool.false_and] at HI
      go_wp2_with fail
      go_ret
      exact ⟨ret_bool HI.out.symm, b1⟩

set_option maxRecDepth 100000 in
set_option maxHeartbeats 1000000 in
theorem isWord_at (s : List UInt8) (w : World) (hL : Laid w) :
    Calls Tryz.prog 203 #[str s] w fun e w' => e = .returned (.bool (Sh.wordB s)) ∧ Below w.heap.size w w' := by
  have T := hideP (isToken_at s 1 s w hL)
  rw [Sh.tok_word] at T
  have HW : Hid (Sh.wordB s = (Sh.namedB Lx.small s && !(((s == [115, 97, 121, 115]) || (s == [116, 111])) || (s == [97, 116])))) := rfl
  by_cases h1 : s = [115, 97, 121, 115]
  · subst h1
    go_enter Tryz.func203, Tryz.ntmps203
    go_wp2_with fail
    go_ret
    exact ⟨rfl, Below.refl _ _⟩
  by_cases h2 : s = [116, 111]
  · subst h2
    go_enter Tryz.func203, Tryz.ntmps203
    go_wp2_with fail
    go_ret
    exact ⟨rfl, Below.refl _ _⟩
  by_cases h3 : s = [97, 116]
  · subst h3
    go_enter Tryz.func203, Tryz.ntmps203
    go_wp2_with fail
    go_ret
    exact ⟨rfl, Below.refl _ _⟩
  have g1 : (s == [115, 97, 121, 115]) = false := by simpa using h1
  have g2 : (s == [116, 111]) = false := by simpa using h2
  have g3 : (s == [97, 116]) = false := by simpa using h3
  have HW2 : Hid (Sh.wordB s = Sh.namedB Lx.small s) := by
    show _ = _
    rw [HW.out, g1, g2, g3]; simp
  clear HW h1 h2 h3
  go_enter Tryz.func203, Tryz.ntmps203
  go_wp2_with fail
  refine T.out.mono ?_
  rintro e w1 ⟨rfl, b1⟩
  go_wp2_with fail
  go_ret
  exact ⟨ret_bool HW2.out.symm, b1⟩

theorem str_add (a b : List UInt8) : (⟨a.toArray⟩ : ByteArray) ++ ⟨b.toArray⟩ = ⟨(a ++ b).toArray⟩ := by
  apply ByteArray.ext
  simp
set_option maxRecDepth 100000 in
set_option maxHeartbeats 1000000 in
theorem quoted_at (s : List UInt8) (w : World) (hs : s.length ≤ 32) :
    Calls Tryz.prog 205 #[str s] w fun e w' => e = .returned (str (34 :: (s ++ [34]))) ∧ w = w' := by
  have hsz := str_size s
  have z1 := str_size (34 :: s)
  have e1 : (⟨#[34]⟩ : ByteArray) ++ ⟨s.toArray⟩ = ⟨(34 :: s).toArray⟩ := str_add [34] s
  have e2 : (⟨(34 :: s).toArray⟩ : ByteArray) ++ ⟨#[34]⟩ = ⟨(34 :: (s ++ [34])).toArray⟩ := str_add (34 :: s) [34]
  have n1 : (34 :: s).length ≤ 33 := by simp; omega
  generalize 34 :: s = s1 at *
  generalize 34 :: (s ++ [34]) = s2 at *
  go_enter Tryz.func205, Tryz.ntmps205
  go_wp2_with fail
  go_ret
  exact ⟨rfl, rfl⟩

set_option maxRecDepth 100000 in
set_option maxHeartbeats 1000000 in
theorem canQuote_at (s : List UInt8) (w : World) (hL : Laid w) :
    Calls Tryz.prog 202 #[str s] w fun e w' => e = .returned (.bool (Sh.plainB s)) ∧ Below w.heap.size w w' := by
  have hsz := str_size s
  have HP : Hid (Sh.plainB s = (decide (1 ≤ s.length) && decide (s.length ≤ 32) && s.all Lx.plain)) := rfl
  by_cases h1 : 1 ≤ s.length
  · by_cases h2 : s.length ≤ 32
    · have q1 : (s.length : Int) ≥ 1 := by omega
      have q2 : (s.length : Int) ≤ 32 := by omega
      have T := hideP (fun W h => isToken_at (34 :: (s ++ [34])) 4 s W h)
      rw [Sh.tok_quote h2] at T
      have HP2 : Hid (Sh.plainB s = s.all Lx.plain) := by
        show _ = _
        rw [HP.out]; simp [h1, h2]
      have Q := hideP (fun W => quoted_at s W h2)
      generalize 34 :: (s ++ [34]) = s2 at *
      generalize s.all Lx.plain = r at *
      clear HP h1 h2
      go_enter Tryz.func202, Tryz.ntmps202
      go_wp2_with (first
        | (go_at_call 205; refine (Q.out _).mono ?_; rintro e w1 ⟨rfl, rfl⟩)
        | (go_at_call 201; refine (T.out _ hL).mono ?_; rintro e w2 ⟨rfl, b2⟩))
      go_ret
      exact ⟨ret_bool HP2.out.symm, b2⟩
    · have q1 : (s.length : Int) ≥ 1 := by omega
      have q2 : ¬ (s.length : Int) ≤ 32 := by omega
      have HP2 : Hid (Sh.plainB s = false) := by
        show _ = _
        rw [HP.out]; simp [h2]
      clear HP
      go_enter Tryz.func202, Tryz.ntmps202
      go_wp2_with fail
      go_ret
      exact ⟨ret_bool HP2.out.symm, Below.refl _ _⟩
  · have q1 : ¬ (s.length : Int) ≥ 1 := by omega
    have HP2 : Hid (Sh.plainB s = false) := by
      show _ = _
      rw [HP.out]; simp [h1]
    clear HP
    go_enter Tryz.func202, Tryz.ntmps202
    go_wp2_with fail
    go_ret
    exact ⟨ret_bool HP2.out.symm, Below.refl _ _⟩

theorem same_zk (k : K) : sameK k ⟨false, 0, []⟩ = Sh.zk k := by
  obtain ⟨a, b, c⟩ := k
  cases a <;> cases c <;> simp [sameK, Sh.zk] <;> rfl
theorem same_none (t : Tm) : sameT t ⟨[], ⟨false, 0, []⟩⟩ = Sh.noneT t := by
  obtain ⟨v, ⟨a, b, c⟩⟩ := t
  cases v <;> cases a <;> cases c <;> simp [sameT, Sh.noneT, Sh.zk] <;> rfl
set_option maxRecDepth 100000 in
set_option maxHeartbeats 1000000 in
theorem isNone_at (t : Tm) (w : World) : Calls Tryz.prog 204 #[tval t] w fun e w' => e = .returned (.bool (Sh.noneT t)) ∧ Below w.heap.size w w' := by
  have E := fun W => eqTerm t ⟨[], ⟨false, 0, []⟩⟩ W
  simp only [same_none] at E
  generalize Sh.noneT t = r at *
  obtain ⟨v, ⟨a, b, c⟩⟩ := t
  go_enter Tryz.func204, Tryz.ntmps204
  go_wp2_with fail
  go_ret
  exact ⟨rfl, below_alloc _ _⟩

set_option maxRecDepth 100000 in
set_option maxHeartbeats 2000000 in
theorem canTerm_at (t : Tm) (w : World) (hL : Laid w) : Calls Tryz.prog 162 #[tval t] w fun e w' => e = .returned (.bool (Sh.canT t)) ∧ Below w.heap.size w w' := by
  have HC := hideP (Sh.canT_eq t)
  have E := fun W => eqConst t.k ⟨false, 0, []⟩ 9998 W
  simp only [same_zk] at E
  obtain ⟨v, ⟨a, b, c⟩⟩ := t
  simp only at E HC
  have A0 := below_alloc w (.cells #[str v, .bool a, .int .i64 b, str c] 44)
  have L0 := hL.below A0
  by_cases hv : v = []
  · subst hv
    simp only [ne_eq, not_true_eq_false, if_false] at HC
    cases a
    · simp only [Bool.false_eq_true, if_false] at HC
      have Q := hideP (canQuote_at c _ L0)
      generalize Sh.plainB c = r at *
      by_cases hb : b = 0
      · subst hb
        have q : ((0 : Int) == 0) = true := rfl
        go_enter Tryz.func162, Tryz.ntmps162
        go_wp2_with fail
        refine Q.out.mono ?_
        rintro e w2 ⟨rfl, b2⟩
        go_wp2_with fail
        go_ret
        exact ⟨ret_bool (by rw [HC.out]; simp), Below.then A0 b2⟩
      · have q : (b == 0) = false := by simpa using hb
        go_enter Tryz.func162, Tryz.ntmps162
        go_wp2_with fail
        go_ret
        exact ⟨ret_bool (by rw [HC.out]; simp [hb]), A0⟩
    · simp only [if_true] at HC
      go_enter Tryz.func162, Tryz.ntmps162
      go_wp2_with fail
      go_ret
      exact ⟨ret_bool HC.out.symm, A0⟩
  · have q : v.isEmpty = false := by simpa using hv
    rw [if_pos hv] at HC
    generalize Sh.zk ⟨a, b, c⟩ = z at *
    have T := hideP (isToken_at v 2 v _ L0)
    generalize Sh.isTok v 2 v = r at *
    clear hv
    cases z
    · go_enter Tryz.func162, Tryz.ntmps162
      go_wp2_with fail
      go_ret
      exact ⟨ret_bool (by rw [HC.out]; rfl), A0⟩
    · go_enter Tryz.func162, Tryz.ntmps162
      go_wp2_with fail
      refine T.out.mono ?_
      rintro e w2 ⟨rfl, b2⟩
      go_wp2_with fail
      go_ret
      exact ⟨ret_bool (by rw [HC.out]; rfl), Below.then A0 b2⟩

set_option maxRecDepth 100000 in
set_option maxHeartbeats 1000000 in
theorem canPlace_at (t : Tm) (w : World) (hL : Laid w) : Calls Tryz.prog 164 #[tval t] w fun e w' => e = .returned (.bool (Sh.canM t)) ∧ Below w.heap.size w w' := by
  have HC : Hid (Sh.canM t = (Sh.noneT t || Sh.canT t)) := rfl
  have N := hideP (fun W => isNone_at t W)
  have T := hideP (fun W h => canTerm_at t W h)
  generalize Sh.noneT t = n at *
  generalize Sh.canT t = r at *
  generalize Sh.canM t = m at *
  obtain ⟨v, ⟨a, b, c⟩⟩ := t
  have A0 := below_alloc w (.cells #[str v, .bool a, .int .i64 b, str c] 44)
  have H0 := heap_alloc_new w (.cells #[str v, .bool a, .int .i64 b, str c] 44)
  have L0 := hL.below A0
  go_enter Tryz.func164, Tryz.ntmps164
  go_wp2_with fail
  refine (N.out _).mono ?_
  rintro e w1 ⟨rfl, b1⟩
  have H1 := below_heap b1 H0
  have c0 : w1.cell? ⟨w.heap.size, 0, none⟩ = some (str v) := by rw [heap_cell H1]; rfl
  have c1 : w1.cell? ⟨w.heap.size, 1, none⟩ = some (.bool a) := by rw [heap_cell H1]; rfl
  have c2 : w1.cell? ⟨w.heap.size, 2, none⟩ = some (.int .i64 b) := by rw [heap_cell H1]; rfl
  have c3 : w1.cell? ⟨w.heap.size, 3, none⟩ = some (str c) := by rw [heap_cell H1]; rfl
  cases n
  · go_wp2_with fail
    refine (T.out _ (L0.below b1)).mono ?_
    rintro e w2 ⟨rfl, b2⟩
    go_wp2_with fail
    go_ret
    exact ⟨ret_bool HC.out.symm, Below.then (Below.then A0 b1) b2⟩
  · go_wp2_with fail
    go_ret
    exact ⟨ret_bool HC.out.symm, Below.then A0 b1⟩
end Go.Proofs.YtpdmmmdkpipmkaaGreatDoor
