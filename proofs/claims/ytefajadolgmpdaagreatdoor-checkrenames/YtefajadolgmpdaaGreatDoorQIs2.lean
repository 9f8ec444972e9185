/-
  The program's functions that tell whether a term, an atom, a rule can be shown.
-/
import Derived.Deep.Cut
import Derived.Test.YtefajadolgmpdaaGreatDoorQSn
import Derived.Test.YtefajadolgmpdaaGreatDoorQTw
import Derived.Test.YtefajadolgmpdaaGreatDoorQTk
namespace Go.Proofs.YtefajadolgmpdaaGreatDoor
open Go.RowKit Go.Lib Go.Shelf

set_option maxRecDepth 100000 in
set_option maxHeartbeats 1000000 in
theorem ltokens_any (l : List UInt8) (w : World) (hL : Laid w) : Calls Tryz.prog 31 #[str l] w (TokAns l w) := by
  by_cases hbig : 4096 < l.length
  · have hsz := str_size l
    have hb' : (l.length : Int) > 4096 := by omega
    have ha : Lx.ans l = .error (0, 3) := by unfold Lx.ans; rw [if_pos hbig]
    have HA := hideP ha
    clear ha
    go_enter Tryz.func31, Tryz.ntmps31
    go_wp2_with fail
    go_ret3
    exact tokAns_err HA.out (Below.refl _ _)
  · exact ltokens_at l w (by omega) hL

set_option maxRecDepth 100000 in
set_option maxHeartbeats 1000000 in
theorem isToken_at (l : List UInt8) (k : Int) (own : List UInt8) (w : World) (hL : Laid w) :
    Calls Tryz.prog 107 #[str l, .int .i64 k, str own] w fun e w' => e = .returned (.bool (Sh.isTok l k own)) ∧ Below w.heap.size w w' := by
  have T := hideP (ltokens_any l w hL)
  go_enter Tryz.func107, Tryz.ntmps107
  go_wp2_with fail
  refine T.out.mono ?_
  rintro e w1 ⟨⟨a1, c1, rfl, r1, _⟩, b1⟩
  clear T
  have HI : Hid (Sh.isTok l k own = match Lx.toks (Lx.ans l) with | [t] => (t.kind == k) && (t.text == own) | _ => false) := rfl
  generalize Lx.toks (Lx.ans l) = L at *
  generalize (Lx.place (Lx.ans l) : Int) = p at *
  generalize Lx.err (Lx.ans l) = er at *
  have few := r1.row.few
  match L with
  | [] =>
    simp only [List.length_nil] at *
    go_wp2_with fail
    go_ret
    exact ⟨ret_bool HI.out.symm, b1⟩
  | t :: u :: r =>
    simp only [List.length_cons] at *
    have q : (((r.length + 1 + 1 : Nat) : Int) == 1) = false := by simp; omega
    go_wp2_with fail
    go_ret
    exact ⟨ret_bool HI.out.symm, b1⟩
  | [t] =>
    obtain ⟨P, O, rfl⟩ := r1.row.addr (by simp)
    have hroom := r1.row.room
    have q := r1.row.range 0 (by simp)
    have q0 := q 0 _ rfl
    have q1 := q 1 _ rfl
    simp only [List.length_cons, List.length_nil, List.getElem_cons_zero, Nat.zero_mul, Nat.add_zero] at q0 q1 hroom ⊢
    simp only [] at HI
    by_cases hk : t.kind = k
    · have hk' : (t.kind == k) = true := by simpa using hk
      rw [hk', Bool.true_and] at HI
      clear hk
      go_wp2_with fail
      go_ret
      exact ⟨ret_bool HI.out.symm, b1⟩
    · have hk' : (t.kind == k) = false := by simpa using hk
      rw [hk', Bool.false_and] at HI
      go_wp2_with fail
      go_ret
      exact ⟨ret_bool HI.out.symm, b1⟩

set_option maxRecDepth 100000 in
set_option maxHeartbeats 1000000 in
theorem isWord_at (s : List UInt8) (w : World) (hL : Laid w) :
    Calls Tryz.prog 109 #[str s] w fun e w' => e = .returned (.bool (Sh.wordB s)) ∧ Below w.heap.size w w' := by
  have T := hideP (isToken_at s 1 s w hL)
  rw [Sh.tok_word] at T
  have HW : Hid (Sh.wordB s = (Sh.namedB Lx.small s && !(((s == [115, 97, 121, 115]) || (s == [116, 111])) || (s == [97, 116])))) := rfl
  by_cases h1 : s = [115, 97, 121, 115]
  · subst h1
    go_enter Tryz.func109, Tryz.ntmps109
    go_wp2_with fail
    go_ret
    exact ⟨rfl, Below.refl _ _⟩
  by_cases h2 : s = [116, 111]
  · subst h2
    go_enter Tryz.func109, Tryz.ntmps109
    go_wp2_with fail
    go_ret
    exact ⟨rfl, Below.refl _ _⟩
  by_cases h3 : s = [97, 116]
  · subst h3
    go_enter Tryz.func109, Tryz.ntmps109
    go_wp2_with fail
    go_ret
    exact ⟨rfl, Below.refl _ _⟩
  have g1 : (s == [115, 97, 121, 115]) = false := by simpa using h1
  have g2 : (s == [116, 111]) = false := by simpa using h2
  have g3 : (s == [97, 116]) = false := by simpa using h3
  have HW2 : Hid (Sh.wordB s = Sh.namedB Lx.small s) := by
    show _ = _
    rw [HW.out, g1, g2, g3]; simp
  clear HW h1 h2 h3
  go_enter Tryz.func109, Tryz.ntmps109
  go_wp2_with fail
  refine T.out.mono ?_
  rintro e w1 ⟨rfl, b1⟩
  go_wp2_with fail
  go_ret
  exact ⟨ret_bool HW2.out.symm, b1⟩

theorem str_add (a b : List UInt8) : (⟨a.toArray⟩ : ByteArray) ++ ⟨b.toArray⟩ = ⟨(a ++ b).toArray⟩ := by
  apply ByteArray.ext
  simp
set_option maxRecDepth 100000 in
set_option maxHeartbeats 1000000 in
theorem quoted_at (s : List UInt8) (w : World) (hs : s.length ≤ 32) :
    Calls Tryz.prog 111 #[str s] w fun e w' => e = .returned (str (34 :: (s ++ [34]))) ∧ w = w' := by
  have hsz := str_size s
  have z1 := str_size (34 :: s)
  have e1 : (⟨#[34]⟩ : ByteArray) ++ ⟨s.toArray⟩ = ⟨(34 :: s).toArray⟩ := str_add [34] s
  have e2 : (⟨(34 :: s).toArray⟩ : ByteArray) ++ ⟨#[34]⟩ = ⟨(34 :: (s ++ [34])).toArray⟩ := str_add (34 :: s) [34]
  have n1 : (34 :: s).length ≤ 33 := by simp; omega
  generalize 34 :: s = s1 at *
  generalize 34 :: (s ++ [34]) = s2 at *
  go_enter Tryz.func111, Tryz.ntmps111
  go_wp2_with fail
  go_ret
  exact ⟨rfl, rfl⟩

set_option maxRecDepth 100000 in
set_option maxHeartbeats 1000000 in
theorem canQuote_at (s : List UInt8) (w : World) (hL : Laid w) :
    Calls Tryz.prog 108 #[str s] w fun e w' => e = .returned (.bool (Sh.plainB s)) ∧ Below w.heap.size w w' := by
  have hsz := str_size s
  have HP : Hid (Sh.plainB s = (decide (1 ≤ s.length) && decide (s.length ≤ 32) && s.all Lx.plain)) := rfl
  by_cases h1 : 1 ≤ s.length
  · by_cases h2 : s.length ≤ 32
    · have q1 : (s.length : Int) ≥ 1 := by omega
      have q2 : (s.length : Int) ≤ 32 := by omega
      have T := hideP (fun W h => isToken_at (34 :: (s ++ [34])) 4 s W h)
      rw [Sh.tok_quote h2] at T
      have HP2 : Hid (Sh.plainB s = s.all Lx.plain) := by
        show _ = _
        rw [HP.out]; simp [h1, h2]
      have Q := hideP (fun W => quoted_at s W h2)
      generalize 34 :: (s ++ [34]) = s2 at *
      generalize s.all Lx.plain = r at *
      clear HP h1 h2
      go_enter Tryz.func108, Tryz.ntmps108
      go_wp2_with (first
        | (go_at_call 111; refine (Q.out _).mono ?_; rintro e w1 ⟨rfl, rfl⟩)
        | (go_at_call 107; refine (T.out _ hL).mono ?_; rintro e w2 ⟨rfl, b2⟩))
      go_ret
      exact ⟨ret_bool HP2.out.symm, b2⟩
    · have q1 : (s.length : Int) ≥ 1 := by omega
      have q2 : ¬ (s.length : Int) ≤ 32 := by omega
      have HP2 : Hid (Sh.plainB s = false) := by
        show _ = _
        rw [HP.out]; simp [h2]
      clear HP
      go_enter Tryz.func108, Tryz.ntmps108
      go_wp2_with fail
      go_ret
      exact ⟨ret_bool HP2.out.symm, Below.refl _ _⟩
  · have q1 : ¬ (s.length : Int) ≥ 1 := by omega
    have HP2 : Hid (Sh.plainB s = false) := by
      show _ = _
      rw [HP.out]; simp [h1]
    clear HP
    go_enter Tryz.func108, Tryz.ntmps108
    go_wp2_with fail
    go_ret
    exact ⟨ret_bool HP2.out.symm, Below.refl _ _⟩

theorem same_zk (k : K) : sameK k ⟨false, 0, []⟩ = Sh.zk k := by
  obtain ⟨a, b, c⟩ := k
  cases a <;> cases c <;> simp [sameK, Sh.zk] <;> rfl
theorem same_none (t : Tm) : sameT t ⟨[], ⟨false, 0, []⟩⟩ = Sh.noneT t := by
  obtain ⟨v, ⟨a, b, c⟩⟩ := t
  cases v <;> cases a <;> cases c <;> simp [sameT, Sh.noneT, Sh.zk] <;> rfl
set_option maxRecDepth 100000 in
set_option maxHeartbeats 1000000 in
theorem isNone_at (t : Tm) (w : World) : Calls Tryz.prog 110 #[tval t] w fun e w' => e = .returned (.bool (Sh.noneT t)) ∧ Below w.heap.size w w' := by
  have E := fun W => eqTerm t ⟨[], ⟨false, 0, []⟩⟩ W
  simp only [same_none] at E
  generalize Sh.noneT t = r at *
  obtain ⟨v, ⟨a, b, c⟩⟩ := t
  go_enter Tryz.func110, Tryz.ntmps110
  go_wp2_with fail
  go_ret
  exact ⟨rfl, below_alloc _ _⟩

set_option maxRecDepth 100000 in
set_option maxHeartbeats 2000000 in
theorem canTerm_at (t : Tm) (w : World) (hL : Laid w) : Calls Tryz.prog 83 #[tval t] w fun e w' => e = .returned (.bool (Sh.canT t)) ∧ Below w.heap.size w w' := by
  have HC := hideP (Sh.canT_eq t)
  have E := fun W => eqConst t.k ⟨false, 0, []⟩ 9998 W
  simp only [same_zk] at E
  obtain ⟨v, ⟨a, b, c⟩⟩ := t
  simp only at E HC
  have A0 := below_alloc w (.cells #[str v, .bool a, .int .i64 b, str c] 38)
  have L0 := hL.below A0
  by_cases hv : v = []
  · subst hv
    simp only [ne_eq, not_true_eq_false, if_false] at HC
    cases a
    · simp only [Bool.false_eq_true, if_false] at HC
      have Q := hideP (canQuote_at c _ L0)
      generalize Sh.plainB c = r at *
      by_cases hb : b = 0
      · subst hb
        have q : ((0 : Int) == 0) = true := rfl
        go_enter Tryz.func83, Tryz.ntmps83
        go_wp2_with fail
        refine Q.out.mono ?_
        rintro e w2 ⟨rfl, b2⟩
        go_wp2_with fail
        go_ret
        exact ⟨ret_bool (by rw [HC.out]; simp), Below.then A0 b2⟩
      · have q : (b == 0) = false := by simpa using hb
        go_enter Tryz.func83, Tryz.ntmps83
        go_wp2_with fail
        go_ret
        exact ⟨ret_bool (by rw [HC.out]; simp [hb]), A0⟩
    · simp only [if_true] at HC
      go_enter Tryz.func83, Tryz.ntmps83
      go_wp2_with fail
      go_ret
      exact ⟨ret_bool HC.out.symm, A0⟩
  · have q : v.isEmpty = false := by simpa using hv
    rw [if_pos hv] at HC
    generalize Sh.zk ⟨a, b, c⟩ = z at *
    have T := hideP (isToken_at v 2 v _ L0)
    generalize Sh.isTok v 2 v = r at *
    clear hv
    cases z
    · go_enter Tryz.func83, Tryz.ntmps83
      go_wp2_with fail
      go_ret
      exact ⟨ret_bool (by rw [HC.out]; rfl), A0⟩
    · go_enter Tryz.func83, Tryz.ntmps83
      go_wp2_with fail
      refine T.out.mono ?_
      rintro e w2 ⟨rfl, b2⟩
      go_wp2_with fail
      go_ret
      exact ⟨ret_bool (by rw [HC.out]; rfl), Below.then A0 b2⟩

set_option maxRecDepth 100000 in
set_option maxHeartbeats 1000000 in
theorem canPlace_at (t : Tm) (w : World) (hL : Laid w) : Calls Tryz.prog 85 #[tval t] w fun e w' => e = .returned (.bool (Sh.canM t)) ∧ Below w.heap.size w w' := by
  have HC : Hid (Sh.canM t = (Sh.noneT t || Sh.canT t)) := rfl
  have N := hideP (fun W => isNone_at t W)
  have T := hideP (fun W h => canTerm_at t W h)
  generalize Sh.noneT t = n at *
  generalize Sh.canT t = r at *
  generalize Sh.canM t = m at *
  obtain ⟨v, ⟨a, b, c⟩⟩ := t
  have A0 := below_alloc w (.cells #[str v, .bool a, .int .i64 b, str c] 38)
  have H0 := heap_alloc_new w (.cells #[str v, .bool a, .int .i64 b, str c] 38)
  have L0 := hL.below A0
  go_enter Tryz.func85, Tryz.ntmps85
  go_wp2_with fail
  refine (N.out _).mono ?_
  rintro e w1 ⟨rfl, b1⟩
  have H1 := below_heap b1 H0
  have c0 : w1.cell? ⟨w.heap.size, 0, none⟩ = some (str v) := by rw [heap_cell H1]; rfl
  have c1 : w1.cell? ⟨w.heap.size, 1, none⟩ = some (.bool a) := by rw [heap_cell H1]; rfl
  have c2 : w1.cell? ⟨w.heap.size, 2, none⟩ = some (.int .i64 b) := by rw [heap_cell H1]; rfl
  have c3 : w1.cell? ⟨w.heap.size, 3, none⟩ = some (str c) := by rw [heap_cell H1]; rfl
  cases n
  · go_wp2_with fail
    refine (T.out _ (L0.below b1)).mono ?_
    rintro e w2 ⟨rfl, b2⟩
    go_wp2_with fail
    go_ret
    exact ⟨ret_bool HC.out.symm, Below.then (Below.then A0 b1) b2⟩
  · go_wp2_with fail
    go_ret
    exact ⟨ret_bool HC.out.symm, Below.then A0 b1⟩
end Go.Proofs.YtefajadolgmpdaaGreatDoor

/-
  The program's functions that tell whether an atom, a rule can be shown.
-/
namespace Go.Proofs.YtefajadolgmpdaaGreatDoor
open Go.RowKit Go.Lib Go.Shelf

theorem Tryz.iT4 : (Tryz.prog.info? 38).map (·.size) = some 4 := by kernel_rfl
theorem Tryz.iL10 : (Tryz.prog.info? 54).map (·.size) = some 10 := by kernel_rfl
theorem Tryz.iR11 : (Tryz.prog.info? 42).map (·.size) = some 11 := by kernel_rfl
theorem lit_cells9 {W : World} {V : Nat} {T : TypeId} (x : Lv) (h : W.heap[V]? = some (.cells (lv x).toArray T)) :
    W.cell? ⟨V, 0, none⟩ = some (str x.by_.v) ∧ W.cell? ⟨V, 1, none⟩ = some (.bool x.by_.k.num) ∧ W.cell? ⟨V, 2, none⟩ = some (.int .i64 x.by_.k.n) ∧ W.cell? ⟨V, 3, none⟩ = some (str x.by_.k.s) ∧ W.cell? ⟨V, 4, none⟩ = some (str x.pred) ∧ W.cell? ⟨V, 5, none⟩ = some (.slice x.a x.args.length x.cap) ∧ W.cell? ⟨V, 6, none⟩ = some (str x.at_.v) ∧ W.cell? ⟨V, 7, none⟩ = some (.bool x.at_.k.num) ∧ W.cell? ⟨V, 8, none⟩ = some (.int .i64 x.at_.k.n) ∧ W.cell? ⟨V, 9, none⟩ = some (str x.at_.k.s) := by
  refine ⟨?_, ?_, ?_, ?_, ?_, ?_, ?_, ?_, ?_, ?_⟩ <;> (rw [heap_cell h]; rfl)
theorem rule_cells9 {W : World} {V : Nat} {T : TypeId} (x : Rv) (h : W.heap[V]? = some (.cells (rv x).toArray T)) :
    W.cell? ⟨V, 0, none⟩ = some (str x.home.v) ∧ W.cell? ⟨V, 1, none⟩ = some (.bool x.home.k.num) ∧ W.cell? ⟨V, 2, none⟩ = some (.int .i64 x.home.k.n) ∧ W.cell? ⟨V, 3, none⟩ = some (str x.home.k.s) ∧ W.cell? ⟨V, 4, none⟩ = some (str x.pred) ∧ W.cell? ⟨V, 5, none⟩ = some (.slice x.a x.args.length x.cap) ∧ W.cell? ⟨V, 6, none⟩ = some (str x.to_.v) ∧ W.cell? ⟨V, 7, none⟩ = some (.bool x.to_.k.num) ∧ W.cell? ⟨V, 8, none⟩ = some (.int .i64 x.to_.k.n) ∧ W.cell? ⟨V, 9, none⟩ = some (str x.to_.k.s) ∧ W.cell? ⟨V, 10, none⟩ = some (.slice x.ba x.body.length x.bcap) := by
  refine ⟨?_, ?_, ?_, ?_, ?_, ?_, ?_, ?_, ?_, ?_, ?_⟩ <;> (rw [heap_cell h]; rfl)

set_option maxRecDepth 100000 in
set_option maxHeartbeats 2000000 in
theorem canAtom_at (p : List UInt8) (a : Option Addr) (c : Nat) (ts : List Tm) (w : World) (hL : Laid w) (hr : Row tK w a c ts) :
    Calls Tryz.prog 84 #[str p, .slice a ts.length c] w fun e w' => e = .returned (.bool (Sh.canA p ts)) ∧ Below w.heap.size w w' := by
  have HC : Hid (Sh.canA p ts = (Sh.wordB p && decide (ts.length ≤ 4) && ts.all Sh.canT)) := rfl
  have W0 := hideP (isWord_at p w hL)
  have few := hr.few
  generalize Sh.wordB p = wb at *
  go_enter Tryz.func84, Tryz.ntmps84
  go_wp2_with fail
  refine W0.out.mono ?_
  rintro e w1 ⟨rfl, b1⟩
  cases wb
  · go_wp2_with fail
    go_ret
    exact ⟨ret_bool (by rw [HC.out]; rfl), b1⟩
  by_cases h4 : ts.length ≤ 4
  rotate_left
  · have q : (ts.length : Int) > 4 := by omega
    have HC2 : Hid (Sh.canA p ts = false) := by show _ = _; rw [HC.out]; simp [h4]
    clear HC
    go_wp2_with fail
    go_ret
    exact ⟨ret_bool HC2.out.symm, b1⟩
  have q : ¬ (ts.length : Int) > 4 := by omega
  have HC2 : Hid (Sh.canA p ts = ts.all Sh.canT) := by show _ = _; rw [HC.out]; simp [h4]
  clear HC
  go_wp2_with fail
  go_loopw [6, 17] (fun _ v wr => ∃ k : Nat, v = .int .i64 (k : Int) ∧ k ≤ ts.length ∧ Hid ((ts.take k).all Sh.canT = true) ∧ Below w.heap.size w wr) (fun _ v _ => ts.length - (Lib.intOf v).toNat)
  case atStart => exact ⟨0, rfl, Nat.zero_le _, rfl, b1⟩
  case round =>
    obtain ⟨k, rfl, hk, hall, hb⟩ := hrel
    by_cases hlt : k < ts.length
    · have q2 : (k : Int) < (ts.length : Int) := by omega
      obtain ⟨P1, O1, rfl⟩ := hr.addr (Nat.lt_of_le_of_lt (Nat.zero_le _) hlt)
      have r1 : wr.rangeAt P1 (O1 + k * 4) (tv (ts[k]'hlt)) := (hr.below hb (Nat.le_refl _)).range k hlt
      have hst : Hid (Sh.canT (ts[k]'hlt) = true → (ts.take (k + 1)).all Sh.canT = true) := fun h => by
        rw [List.take_succ_eq_append_getElem hlt, List.all_append, hall.out]; simp [h]
      have hno : Hid (Sh.canT (ts[k]'hlt) = false → ts.all Sh.canT = false) := fun h => by
        rw [List.all_eq_false]; exact ⟨_, List.getElem_mem hlt, by rw [h]; decide⟩
      generalize (ts[k]'hlt) = t at *
      have T := hideP (fun W h => canTerm_at t W h)
      generalize Sh.canT t = ct at *
      have iP : (Tryz.prog.info? 38).map (·.size) = some (tv t).length := Tryz.iT4
      cases ct
      · have hno' := hideP (hno.out rfl)
        clear hno hst
        go_wp2_with (first
          | (refine wpList_load_mid rfl 38 _ rfl P1 (O1 + k * 4) rfl (tv t) _ r1 Tryz.underlying38 rfl iP ?_)
          | (refine wpList_store_all rfl 38 _ _ rfl wr.heap.size 4 _ 38 (tv t) rfl rfl (heap_alloc_new wr _) rfl rfl Tryz.iT4 rfl ?_; intro w2 H2 d2; have B2 := below_tok d2)
          | (refine wpList_load_all rfl 38 _ rfl wr.heap.size 4 38 (tv t) _ rfl H2 rfl Tryz.underlying38 rfl Tryz.iT4 ?_)
          | (go_at_call 83; refine (T.out w2 ((hL.below hb).below B2)).mono ?_; rintro e w3 ⟨rfl, b3⟩))
        go_ret
        exact ⟨ret_bool (by rw [HC2.out, hno'.out]), hb.trans ((Below.then B2 b3).mono hb.size)⟩
      · have hst' := hideP (hst.out rfl)
        clear hno hst
        go_wp2_with (first
          | (refine wpList_load_mid rfl 38 _ rfl P1 (O1 + k * 4) rfl (tv t) _ r1 Tryz.underlying38 rfl iP ?_)
          | (refine wpList_store_all rfl 38 _ _ rfl wr.heap.size 4 _ 38 (tv t) rfl rfl (heap_alloc_new wr _) rfl rfl Tryz.iT4 rfl ?_; intro w2 H2 d2; have B2 := below_tok d2)
          | (refine wpList_load_all rfl 38 _ rfl wr.heap.size 4 38 (tv t) _ rfl H2 rfl Tryz.underlying38 rfl Tryz.iT4 ?_)
          | (go_at_call 83; refine (T.out w2 ((hL.below hb).below B2)).mono ?_; rintro e w3 ⟨rfl, b3⟩))
        exact ⟨⟨k + 1, by go_num, by omega, hst'.out, hb.trans ((Below.then B2 b3).mono hb.size)⟩, by simp [Lib.intOf]; omega⟩
    · have q2 : ¬ (k : Int) < (ts.length : Int) := by omega
      have hfin : Hid (ts.all Sh.canT = true) := by
        have := hall.out
        rwa [List.take_of_length_le (by omega)] at this
      go_wp2_with fail
      go_ret
      exact ⟨ret_bool (by rw [HC2.out, hfin.out]), hb⟩

set_option maxRecDepth 100000 in
set_option maxHeartbeats 4000000 in
theorem canRule_at (x : Rv) (w : World) (hL : Laid w) (hx : Rv.Aw w x) :
    Calls Tryz.prog 52 #[rval x] w fun e w' => e = .returned (.bool (Sh.canR x.r)) ∧ Below w.heap.size w w' := by
  have HC : Hid (Sh.canR x.r = (Sh.canT x.home && Sh.canA x.pred x.args && Sh.canM x.to_ && decide (1 ≤ (x.body.map Lv.l).length) && decide ((x.body.map Lv.l).length ≤ 4) && (x.body.map Lv.l).all Sh.canL)) := rfl
  obtain ⟨hx1, hx2, hx3⟩ := hx
  have A0 := below_alloc w (.cells (rv x).toArray 42)
  have H0 := heap_alloc_new w (.cells (rv x).toArray 42)
  have L0 := hL.below A0
  have T1 := hideP (canTerm_at x.home _ L0)
  have T2 := hideP (fun W h (b : Below w.heap.size w W) => canAtom_at x.pred x.a x.cap x.args W h (hx1.below b (Nat.le_refl _)))
  have T3 := hideP (fun W h => canPlace_at x.to_ W h)
  have few := hx2.few
  generalize Sh.canT x.home = s1 at *
  generalize Sh.canA x.pred x.args = s2 at *
  generalize Sh.canM x.to_ = s3 at *
  go_enter Tryz.func52, Tryz.ntmps52
  go_wp2_with fail
  refine T1.out.mono ?_
  rintro e w1 ⟨rfl, b1⟩
  have H1 := below_heap b1 H0
  have B1 := Below.then A0 b1
  cases s1
  · go_wp2_with fail
    go_ret
    exact ⟨ret_bool HC.out.symm, B1⟩
  obtain ⟨c0, c1, c2, c3, c4, c5, c6, c7, c8, c9, c10⟩ := rule_cells9 x H1
  go_wp2_with fail
  refine (T2.out w1 (L0.below b1) B1).mono ?_
  rintro e w2 ⟨rfl, b2⟩
  have H2 := below_heap b2 H1
  have B2 := Below.then B1 b2
  clear c0 c1 c2 c3 c4 c5 c6 c7 c8 c9 c10
  cases s2
  · go_wp2_with fail
    go_ret
    exact ⟨ret_bool HC.out.symm, B2⟩
  obtain ⟨c0, c1, c2, c3, c4, c5, c6, c7, c8, c9, c10⟩ := rule_cells9 x H2
  go_wp2_with fail
  refine (T3.out w2 (hL.below B2)).mono ?_
  rintro e w3 ⟨rfl, b3⟩
  have H3 := below_heap b3 H2
  have B3 := Below.then B2 b3
  clear c0 c1 c2 c3 c4 c5 c6 c7 c8 c9 c10 T1 T2 T3 H0 H1 H2 b1 b2 b3 B1 B2 A0 L0
  cases s3
  · go_wp2_with fail
    go_ret
    exact ⟨ret_bool HC.out.symm, B3⟩
  obtain ⟨c0, c1, c2, c3, c4, c5, c6, c7, c8, c9, c10⟩ := rule_cells9 x H3
  clear c0 c1 c2 c3 c4 c5 c6 c7 c8 c9
  have hml : (x.body.map Lv.l).length = x.body.length := List.length_map ..
  by_cases g1 : 1 ≤ x.body.length
  rotate_left
  · have q : (x.body.length : Int) < 1 := by omega
    have HC2 : Hid (Sh.canR x.r = false) := by show _ = _; rw [HC.out, hml]; simp [g1]
    clear HC
    go_wp2_with fail
    go_ret
    exact ⟨ret_bool HC2.out.symm, B3⟩
  by_cases g2 : x.body.length ≤ 4
  rotate_left
  · have q : ¬ (x.body.length : Int) < 1 := by omega
    have q' : (x.body.length : Int) > 4 := by omega
    have HC2 : Hid (Sh.canR x.r = false) := by show _ = _; rw [HC.out, hml]; simp [g2]
    clear HC
    go_wp2_with fail
    go_ret
    exact ⟨ret_bool HC2.out.symm, B3⟩
  have q : ¬ (x.body.length : Int) < 1 := by omega
  have q' : ¬ (x.body.length : Int) > 4 := by omega
  have HC2 : Hid (Sh.canR x.r = (x.body.map Lv.l).all Sh.canL) := by show _ = _; rw [HC.out, hml]; simp [g1, g2]
  clear HC hml
  generalize x.body = ls at *
  generalize x.ba = ba at *
  generalize x.bcap = bc at *
  go_wp2_with fail
  go_loopw [4, 36] (fun _ v wr => ∃ k : Nat, v = .int .i64 (k : Int) ∧ k ≤ ls.length ∧ Hid (((ls.take k).map Lv.l).all Sh.canL = true) ∧ Below w.heap.size w wr) (fun _ v _ => ls.length - (Lib.intOf v).toNat)
  case atStart => exact ⟨0, rfl, Nat.zero_le _, rfl, B3⟩
  case round =>
    obtain ⟨k, rfl, hk, hall, hb⟩ := hrel
    by_cases hlt : k < ls.length
    · have q2 : (k : Int) < (ls.length : Int) := by omega
      obtain ⟨P1, O1, rfl⟩ := hx2.addr (Nat.lt_of_le_of_lt (Nat.zero_le _) hlt)
      have r1 : wr.rangeAt P1 (O1 + k * 10) (lv (ls[k]'hlt)) := (hx2.below hb (Nat.le_refl _)).range k hlt
      have aP : Row tK w (ls[k]'hlt).a (ls[k]'hlt).cap (ls[k]'hlt).args := hx3 _ (List.getElem_mem hlt)
      have hst : Hid (Sh.canL (ls[k]'hlt).l = true → ((ls.take (k + 1)).map Lv.l).all Sh.canL = true) := fun h => by
        rw [List.take_succ_eq_append_getElem hlt, List.map_append, List.all_append, hall.out]; simp [h]
      have hno : Hid (Sh.canL (ls[k]'hlt).l = false → (ls.map Lv.l).all Sh.canL = false) := fun h => by
        rw [List.all_eq_false]; exact ⟨_, List.mem_map_of_mem (List.getElem_mem hlt), by rw [h]; decide⟩
      clear hall
      generalize (ls[k]'hlt) = y at *
      have HL : Hid (Sh.canL y.l = (Sh.canM y.by_ && Sh.canA y.pred y.args && Sh.canM y.at_)) := rfl
      have T1 := hideP (fun W h => canPlace_at y.by_ W h)
      have T2 := hideP (fun W h (b : Below w.heap.size w W) => canAtom_at y.pred y.a y.cap y.args W h (aP.below b (Nat.le_refl _)))
      have T3 := hideP (fun W h => canPlace_at y.at_ W h)
      generalize Sh.canM y.by_ = s1 at *
      generalize Sh.canA y.pred y.args = s2 at *
      generalize Sh.canM y.at_ = s3 at *
      have iP : (Tryz.prog.info? 54).map (·.size) = some (lv y).length := Tryz.iL10
      go_upto_region 8 with (first
        | (refine wpList_load_mid rfl 54 _ rfl P1 (O1 + k * 10) rfl (lv y) _ r1 Tryz.underlying54 rfl iP ?_)
        | (refine wpList_store_all rfl 54 _ _ rfl wr.heap.size 10 _ 54 (lv y) rfl rfl (heap_alloc_new wr _) rfl rfl Tryz.iL10 rfl ?_; intro w4 H4 d4; have B4 := hb.trans ((below_tok d4).mono hb.size)))
      clear d4
      obtain ⟨c0, c1, c2, c3, c4, c5, c6, c7, c8, c9⟩ := lit_cells9 y H4
      go_wp2_with fail
      refine (T1.out w4 (hL.below B4)).mono ?_
      rintro e w5 ⟨rfl, b5⟩
      have H5 := below_heap b5 H4
      have B5 := Below.then B4 b5
      clear c0 c1 c2 c3 c4 c5 c6 c7 c8 c9
      cases s1
      · go_wp2_with fail
        go_ret
        exact ⟨ret_bool (by rw [HC2.out, hno.out HL.out]), B5⟩
      obtain ⟨c0, c1, c2, c3, c4, c5, c6, c7, c8, c9⟩ := lit_cells9 y H5
      go_wp2_with fail
      refine (T2.out w5 (hL.below B5) B5).mono ?_
      rintro e w6 ⟨rfl, b6⟩
      have H6 := below_heap b6 H5
      have B6 := Below.then B5 b6
      clear c0 c1 c2 c3 c4 c5 c6 c7 c8 c9
      cases s2
      · go_wp2_with fail
        go_ret
        exact ⟨ret_bool (by rw [HC2.out, hno.out HL.out]), B6⟩
      obtain ⟨c0, c1, c2, c3, c4, c5, c6, c7, c8, c9⟩ := lit_cells9 y H6
      go_wp2_with fail
      refine (T3.out w6 (hL.below B6)).mono ?_
      rintro e w7 ⟨rfl, b7⟩
      have B7 := Below.then B6 b7
      clear c0 c1 c2 c3 c4 c5 c6 c7 c8 c9
      cases s3
      · go_wp2_with fail
        go_ret
        exact ⟨ret_bool (by rw [HC2.out, hno.out HL.out]), B7⟩
      · go_wp2_with fail
        exact ⟨⟨k + 1, by go_num, by omega, hst.out HL.out, B7⟩, by simp [Lib.intOf]; omega⟩
    · have q2 : ¬ (k : Int) < (ls.length : Int) := by omega
      have hfin : Hid ((ls.map Lv.l).all Sh.canL = true) := by
        have := hall.out
        rwa [List.take_of_length_le (by omega)] at this
      go_wp2_with fail
      go_ret
      exact ⟨ret_bool (by rw [HC2.out, hfin.out]), hb⟩
end Go.Proofs.YtefajadolgmpdaaGreatDoor
