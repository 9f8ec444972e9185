/-
  The program's isNone, either, text, Value.
-/
import Derived.Test.YtbahbibibpkddaaE1
import Derived.Deep.RegionWith
namespace Go.Proofs.Ytbahbibibpkddaa
open Go.RowKit Go.Lib Go.Shelf

theorem same_nul (t : Tm) : sameT t ⟨[], ⟨false, 0, []⟩⟩ = Mt.nul t := by
  obtain ⟨v, ⟨a, b, c⟩⟩ := t
  cases v <;> cases a <;> cases c <;> simp [sameT, Mt.nul] <;> rfl
theorem results_c1 {P : Program} {fn : Func} {p q : Tmp} {ty : TypeId} {tmps : Array Value} {w : World} {b : Nat} {C : Array Value} {d : TypeDesc} {T : TypeId} (h : fn.results = #[.cell p ty, .tmp q]) (hp : tmps.getD p undef = .pointer (some ⟨b, 0, none⟩)) (hc : w.heap[b]? = some (.cells C T))
    (hu : P.underlying ty = some d) (hd : d.isRow = true) (hi : (P.info? ty).map (·.size) = some C.size) : (results fn tmps).run P w = .ok (.tuple #[.agg C, tmps.getD q undef]) w := by
  have hr : w.rangeAt b 0 C.toList := by
    have := World.rangeAt_of_block hc 0 C.size
    simpa using this
  simp only [Array.getD_eq_getD_getElem?] at hp ⊢
  simp only [results, h]
  simp [asAddr, hp, run_loadVar_mid w b 0 ty C.toList d hr hu hd (by simpa using hi)]

set_option maxRecDepth 100000 in
set_option maxHeartbeats 400000 in
theorem mnone_at (t : Tm) (w : World) : Calls Try.prog 28 #[tval t] w fun e w' => e = .returned (.bool (Mt.nul t)) ∧ Below w.heap.size w w' := by
  have E := fun W => eqTerm t ⟨[], ⟨false, 0, []⟩⟩ W
  simp only [same_nul] at E
  generalize Mt.nul t = r at *
  obtain ⟨v, ⟨a, b, c⟩⟩ := t
  go_enter Try.func28, Try.ntmps28
  go_wp2_with fail
  go_ret
  exact ⟨rfl, below_alloc _ _⟩

set_option maxRecDepth 100000 in
set_option maxHeartbeats 400000 in
theorem mtext_at (s : List UInt8) (w : World) : Calls Try.prog 45 #[str s] w fun e w' => e = .returned (kval (Mt.nm s)) ∧ Below w.heap.size w w' := by
  have H0 := heap_alloc_new w (.cells #[.bool false, .int .i64 0, .string { data := #[] }] 23)
  have iK : (Try.prog.info? 23).map (·.size) = some 3 := by kernel_rfl
  go_enter Try.func45, Try.ntmps45
  go_wp2_with (refine wpList_store_all rfl 23 _ _ rfl w.heap.size 3 _ 23 (kv (Mt.nm s)) rfl rfl H0 rfl rfl iK rfl ?_; intro w1 H1 b1)
  exact bodyPost_ret (results_cell rfl rfl H1 Try.underlying23 rfl iK) rfl ⟨rfl, below_tok b1⟩

theorem boxes2 (w : World) (o1 o2 : Obj) : ((w.alloc o1).alloc o2).heap[w.heap.size]? = some o1 ∧ ((w.alloc o1).alloc o2).heap[w.heap.size + 1]? = some o2 ∧ Below w.heap.size w ((w.alloc o1).alloc o2) := by
  have s1 : (w.alloc o1).heap.size = w.heap.size + 1 := by simp
  have A0 := below_alloc w o1
  have A1 := below_alloc (w.alloc o1) o2
  have h2 := heap_alloc_new (w.alloc o1) o2
  rw [s1] at h2
  exact ⟨below_heap A1 (heap_alloc_new w o1), h2, Below.then A0 A1⟩
theorem boxes3 (w : World) (o1 o2 o3 : Obj) : (((w.alloc o1).alloc o2).alloc o3).heap[w.heap.size]? = some o1 ∧ (((w.alloc o1).alloc o2).alloc o3).heap[w.heap.size + 1]? = some o2 ∧ (((w.alloc o1).alloc o2).alloc o3).heap[w.heap.size + 2]? = some o3 ∧ Below w.heap.size w (((w.alloc o1).alloc o2).alloc o3) := by
  obtain ⟨h1, h2, h3⟩ := boxes2 w o1 o2
  have s1 : ((w.alloc o1).alloc o2).heap.size = w.heap.size + 2 := by simp
  have A1 := below_alloc ((w.alloc o1).alloc o2) o3
  have h4 := heap_alloc_new ((w.alloc o1).alloc o2) o3
  rw [s1] at h4
  exact ⟨below_heap A1 h1, below_heap A1 h2, h4, Below.then h3 A1⟩

set_option maxRecDepth 100000 in
set_option maxHeartbeats 800000 in
theorem meither_at (t u : Tm) (w : World) : Calls Try.prog 40 #[tval t, tval u] w fun e w' => e = .returned (tval (Mt.place u t)) ∧ Below w.heap.size w w' := by
  have iT : (Try.prog.info? 25).map (·.size) = some 4 := by kernel_rfl
  have HP : Hid (Mt.place u t = if Mt.nul t = true then u else t) := rfl
  have N := hideP (fun W => mnone_at t W)
  generalize Mt.place u t = r at *
  generalize Mt.nul t = q at *
  obtain ⟨v, ⟨a, b, c⟩⟩ := t
  obtain ⟨v', ⟨a', b', c'⟩⟩ := u
  have BX := boxes3 w (.cells #[str v, .bool a, .int .i64 b, str c] 25) (.cells #[str v', .bool a', .int .i64 b', str c'] 25) (.cells #[.string { data := #[] }, .bool false, .int .i64 0, .string { data := #[] }] 25)
  have HB := hideP BX
  clear BX
  go_enter Try.func40, Try.ntmps40
  go_wp2_with fail
  refine (N.out _).mono ?_
  rintro e w1 ⟨rfl, b1⟩
  obtain ⟨h1, h2, h3, h4⟩ := HB.out
  have g1 := below_heap b1 h1
  have g2 := below_heap b1 h2
  have g3 := below_heap b1 h3
  have B := Below.then h4 b1
  have hs3 := heap_lt g3
  clear HB h1 h2 h3 h4 b1 N
  cases q with
  | true =>
    go_wp2_with (first | (refine wpList_load_all rfl 25 _ rfl (w.heap.size + 1) 4 25 (tv ⟨v', ⟨a', b', c'⟩⟩) _ rfl g2 rfl Try.underlying25 rfl iT ?_) | (refine wpList_store_all rfl 25 _ _ rfl (w.heap.size + 2) 4 _ 25 (tv ⟨v', ⟨a', b', c'⟩⟩) rfl rfl g3 rfl rfl iT rfl ?_; intro w2 H2 b2))
    exact bodyPost_ret (results_cell rfl rfl H2 Try.underlying25 rfl iT) rfl ⟨by rw [HP.out]; rfl, B.trans (b2.lower (by omega) (Nat.le_of_lt (by omega)))⟩
  | false =>
    go_wp2_with (first | (refine wpList_load_all rfl 25 _ rfl w.heap.size 4 25 (tv ⟨v, ⟨a, b, c⟩⟩) _ rfl g1 rfl Try.underlying25 rfl iT ?_) | (refine wpList_store_all rfl 25 _ _ rfl (w.heap.size + 2) 4 _ 25 (tv ⟨v, ⟨a, b, c⟩⟩) rfl rfl g3 rfl rfl iT rfl ?_; intro w2 H2 b2))
    exact bodyPost_ret (results_cell rfl rfl H2 Try.underlying25 rfl iT) rfl ⟨by rw [HP.out]; rfl, B.trans (b2.lower (by omega) (Nat.le_of_lt (by omega)))⟩

/-! Value -/
theorem get_hit {v : List UInt8} {L : Mt.Env} {k : Nat} (hk : k < L.length) (h0 : Mt.get v (L.take k) = none) (h1 : L[k].1 = v) : Mt.get v L = some L[k].2 := by
  have e : L = L.take k ++ L.drop k := (List.take_append_drop k L).symm
  unfold Mt.get at *
  have h0' : (L.take k).find? (fun b => b.1 == v) = none := by simpa using h0
  conv => lhs; rw [e]
  rw [List.find?_append, h0', List.drop_eq_getElem_cons hk, List.find?_cons]
  simp [h1]
theorem get_miss {v : List UInt8} {L : Mt.Env} {k : Nat} (hk : k < L.length) (h0 : Mt.get v (L.take k) = none) (h1 : L[k].1 ≠ v) : Mt.get v (L.take (k + 1)) = none := by
  unfold Mt.get at *
  have h0' : (L.take k).find? (fun b => b.1 == v) = none := by simpa using h0
  rw [List.take_succ_eq_append_getElem hk, List.find?_append, h0', List.find?_cons, show (L[k].1 == v) = false by simpa using h1]
  rfl

set_option maxRecDepth 100000 in
set_option maxHeartbeats 400000 in
theorem mclosure_at (b : Bd) (p : Nat) (v : List UInt8) (w : World) (hp : w.cell? ⟨p, 0, none⟩ = some (str v)) : Calls Try.prog 30 #[bval b, ptr p] w fun e w' => e = .returned (.bool (b.1 == v)) ∧ Below w.heap.size w w' := by
  obtain ⟨x, ⟨a, n, s⟩⟩ := b
  have hp' := (below_alloc w (.cells #[str x, .bool a, .int .i64 n, str s] 57)).cell (cell_block hp)
  rw [hp] at hp'
  have A0 := below_alloc w (.cells #[str x, .bool a, .int .i64 n, str s] 57)
  go_enter Try.func30, Try.ntmps30
  go_wp2_with fail
  go_ret
  exact ⟨ret_bool rfl, A0⟩

set_option maxRecDepth 100000 in
set_option maxHeartbeats 800000 in
theorem mindex_at (p : Nat) (v : List UInt8) (a : Option Addr) (c : Nat) (L : List Bd) (w : World) (hp : w.cell? ⟨p, 0, none⟩ = some (str v)) (h : Row bK w a c L) :
    Calls Try.prog 29 #[.slice a L.length c, .func (.func 30) #[] #[ptr p]] w fun e w' => ((∃ (k : Nat) (hk : k < L.length), e = .returned (.int .i64 (k : Int)) ∧ Mt.get v L = some L[k].2) ∨ (e = .returned (.int .i64 (-1)) ∧ Mt.get v L = none)) ∧ Below w.heap.size w w' := by
  have iB : (Try.prog.info? 57).map (·.size) = some 4 := by kernel_rfl
  have few := h.few
  have eg : ∀ args w, (callFunc 30 args).run Try.prog w = .ok (.enter 30 args) w := enters_of Try.func30 (by kernel_rfl) rfl
  go_enter Try.func29, Try.ntmps29
  go_wp2_with fail
  go_loopw [5, 8] (fun _ u wr => ∃ k : Nat, u = .int .i64 (k : Int) ∧ k ≤ L.length ∧ Hid (Mt.get v (L.take k) = none) ∧ Below w.heap.size w wr) (fun _ u _ => L.length - (intOf u).toNat)
  case atStart => exact ⟨0, rfl, by omega, hideP (by simp [Mt.get]), Below.refl _ _⟩
  case round =>
    obtain ⟨k, rfl, hk, hno, B⟩ := hrel
    have hp2 : wr.cell? ⟨p, 0, none⟩ = some (str v) := by rw [B.cell (cell_block hp)]; exact hp
    by_cases hlt : k < L.length
    · have q0 : (k : Int) < (L.length : Int) := by omega
      obtain ⟨P1, O1, rfl⟩ := h.addr (by omega)
      have r1 : wr.rangeAt P1 (O1 + k * 4) (bv (L[k]'hlt)) := (h.below B (Nat.le_refl _)).range k hlt
      have YE : Hid ((L[k]'hlt).1 = v → Mt.get v L = some (L[k]'hlt).2) := fun h1 => get_hit hlt hno.out h1
      have NO : Hid ((L[k]'hlt).1 ≠ v → Mt.get v (L.take (k + 1)) = none) := fun h1 => get_miss hlt hno.out h1
      have T := hideP (mclosure_at (L[k]'hlt) p v wr hp2)
      have iQ : (Try.prog.info? 57).map (·.size) = some (bv (L[k]'hlt)).length := iB
      generalize hb : (L[k]'hlt) = b at *
      have Hb := hideP hb
      clear hb hno
      by_cases he : b.1 = v
      · rw [show (b.1 == v) = true by simpa using he] at T
        have Y := hideP (YE.out he)
        clear he YE NO
        go_wp2_with (refine wpList_load_mid rfl 57 _ rfl P1 (O1 + k * 4) rfl (bv b) _ r1 Try.underlying57 rfl iQ ?_)
        refine T.out.mono ?_
        rintro e w1 ⟨rfl, b1⟩
        go_wp2_with fail
        go_ret
        exact ⟨.inl ⟨k, hlt, rfl, by rw [Hb.out]; exact Y.out⟩, Below.then B b1⟩
      · rw [show (b.1 == v) = false by simpa using he] at T
        have Y := hideP (NO.out he)
        clear he YE NO
        go_wp2_with (refine wpList_load_mid rfl 57 _ rfl P1 (O1 + k * 4) rfl (bv b) _ r1 Try.underlying57 rfl iQ ?_)
        refine T.out.mono ?_
        rintro e w1 ⟨rfl, b1⟩
        go_wp2_with fail
        exact ⟨⟨k + 1, by go_num, hlt, Y, Below.then B b1⟩, by simp [intOf]; omega⟩
    · have q0 : ¬ (k : Int) < (L.length : Int) := by omega
      rw [List.take_of_length_le (by omega)] at hno
      go_wp2_with fail
      go_ret
      exact ⟨.inr ⟨rfl, hno.out⟩, B⟩
end Go.Proofs.Ytbahbibibpkddaa
