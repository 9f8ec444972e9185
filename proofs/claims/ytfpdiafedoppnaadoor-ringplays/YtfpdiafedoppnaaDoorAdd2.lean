/-
  The contract of Add (the walk).
-/
import Derived.Test.YtfpdiafedoppnaaDoorAdd
namespace Go.Proofs.YtfpdiafedoppnaaDoor
open Go.RowKit

/-- a Hash in block h, whatever it holds -/
structure RepG (w : World) (h : Nat) (s : List Sm.Wd) (t : List UInt8) (n : Nat) : Prop where
  made : w.cell? ⟨h, 0, none⟩ = some (.bool true)
  st : w.rangeAt h 1 (ws s)
  tl : w.rangeAt h 9 (cs t)
  n : w.cell? ⟨h, 73, none⟩ = some (.int .i64 (n : Int))
  th : w.there h 0 74
  ls : s.length = 8
  lt : t.length = 64
theorem Rep.g {w : World} {h : Nat} {l : List UInt8} (r : Rep w h l) : RepG w h (Sm.state l) (Sm.tail l) l.length := ⟨r.made, r.st, r.tl, r.n, r.t, Sm.state_length l, Sm.tail_length l⟩
theorem RepG.rep {w : World} {h n : Nat} {l t : List UInt8} {s : List Sm.Wd} (r : RepG w h s t n) (hs : s = Sm.state l) (ht : t = Sm.tail l) (hn : n = l.length) : Rep w h l := by
  subst hs ht hn
  exact ⟨r.made, r.st, r.tl, r.n, r.th⟩
theorem cell_out {w : World} {g o j : Nat} {V : List Value} (hap : j < o ∨ o + V.length ≤ j) : (w.setCells g o V).cell? ⟨g, j, none⟩ = w.cell? ⟨g, j, none⟩ :=
  World.cell?_setCells_out g V o w ⟨g, j, none⟩ (fun _ _ => hap)
theorem RepG.below {w w' : World} {h n : Nat} {t : List UInt8} {s : List Sm.Wd} (r : RepG w h s t n) (hb : Below w.heap.size w w') : RepG w' h s t n :=
  ⟨by rw [hb.cell (p := ⟨h, 0, none⟩) (cell_block r.made)]; exact r.made, rangeAt_below r.st hb, rangeAt_below r.tl hb, by rw [hb.cell (p := ⟨h, 73, none⟩) (cell_block r.n)]; exact r.n, there_below r.th hb, r.ls, r.lt⟩
theorem there_mid {w : World} {h : Nat} (r : w.there h 0 74) (o n : Nat) (hn : o + n ≤ 74) : w.there h o n := fun j hj => by
  have := r (o + j) (by omega)
  rwa [Nat.zero_add] at this
theorem RepG.into {w : World} {h n e : Nat} {t p : List UInt8} {s : List Sm.Wd} (r : RepG w h s t n) (he : e + p.length ≤ 64) : RepG (w.setCells h (9 + e) (cs p)) h s (Sm.into t p e) n := by
  have l1 := r.ls
  have l2 := r.lt
  have l3 := cs_length p
  have l4 := ws_length s
  exact ⟨by rw [cell_out (by omega)]; exact r.made, World.rangeAt_setCells_apart r.st _ _ _ (.inr (.inl (by omega))), rangeAt_into r.tl (there_mid r.th _ _ (by omega)) (by omega), by rw [cell_out (by omega)]; exact r.n, World.there_setCells r.th _ _ _, l1, by rw [Sm.into_length _ _ _ (by omega)]; exact l2⟩
theorem RepG.len {w : World} {h n : Nat} {t : List UInt8} {s : List Sm.Wd} (r : RepG w h s t n) (n' : Nat) (v : Value) (hv : v = .int .i64 (n' : Int)) : RepG (w.setCell ⟨h, 73, none⟩ v) h s t n' := by
  subst hv
  have l1 := r.ls
  have l2 := r.lt
  have l3 := cs_length t
  have l4 := ws_length s
  have c := fun (j : Nat) (V : Value) (hj : j ≠ 73) => World.cell?_setCell_other w ⟨h, 73, none⟩ ⟨h, j, none⟩ V (by intro e; cases e; exact hj rfl)
  refine ⟨by rw [c 0 _ (by omega)]; exact r.made, World.rangeAt_setCells_apart r.st h 73 [_] (.inr (.inl (by omega))), World.rangeAt_setCells_apart r.tl h 73 [_] (.inr (.inl (by omega))), ?_, World.there_setCells r.th h 73 [_], l1, l2⟩
  rw [World.cell?_setCell_same _ _ _ r.n]
theorem RepG.state {w : World} {h n : Nat} {t : List UInt8} {s : List Sm.Wd} (r : RepG w h s t n) (s' : List Sm.Wd) (hs : s'.length = 8) : RepG (w.setCells h 1 (ws s')) h s' t n := by
  have l2 := r.lt
  have l3 := cs_length t
  have l4 := ws_length s'
  exact ⟨by rw [cell_out (by omega)]; exact r.made, World.rangeAt_setCells_same _ _ _ _ (there_mid r.th _ _ (by omega)), World.rangeAt_setCells_apart r.tl _ _ _ (.inr (.inr (by omega))), by rw [cell_out (by omega)]; exact r.n, World.there_setCells r.th _ _ _, hs, l2⟩
theorem RepG.tail {w : World} {h n : Nat} {t : List UInt8} {s : List Sm.Wd} (r : RepG w h s t n) (t' : List UInt8) (ht : t'.length = 64) : RepG (w.setCells h 9 (cs t')) h s t' n := by
  have l1 := r.ls
  have l3 := cs_length t'
  have l4 := ws_length s
  exact ⟨by rw [cell_out (by omega)]; exact r.made, World.rangeAt_setCells_apart r.st _ _ _ (.inr (.inl (by omega))), World.rangeAt_setCells_same _ _ _ _ (there_mid r.th _ _ (by omega)), by rw [cell_out (by omega)]; exact r.n, World.there_setCells r.th _ _ _, l1, ht⟩

/-- how many a slice holds -/
def sliceLen : Value → Nat
  | .slice _ n _ => n
  | _ => 0

theorem Tryd.sizeU8 : (Tryd.prog.info? 5).map (·.size) = some 1 := by kernel_rfl

set_option maxRecDepth 100000 in
set_option maxHeartbeats 1600000 in
theorem add_any (h : Nat) (l m : List UInt8) (a : Option Addr) (c : Nat) (w : World) (r : Rep w h l) (ha : Holds w a c m) (hne : ∀ ad, a = some ad → 0 < m.length → ad.block ≠ h) (hL : Laid w) (hh : 1 < h) (hm : l.length + m.length ≤ 1000000000000) :
    Calls Tryd.prog 48 #[.pointer (some ⟨h, 0, none⟩), .slice a m.length c] w fun e w' => e = .returned (.tuple #[]) ∧ Rep w' h (l ++ m) ∧ But h w w' := by
  go_enter Tryd.func48, Tryd.ntmps48
  go_wp2_with (go_at_call 54; refine (fromNew_any _ h true r.made).mono ?_; rintro e w' ⟨rfl, rfl⟩)
  go_loopw [1] (fun v wr => ∃ (a' : Option Addr) (c' : Nat) (p q : List UInt8), v = .slice a' q.length c' ∧ m = p ++ q ∧ Holds wr a' c' q ∧ (∀ ad, a' = some ad → 0 < q.length → ad.block ≠ h) ∧ Rep wr h (l ++ p) ∧ But h w wr) (fun v _ => sliceLen v)
  case atStart => exact ⟨a, c, [], m, rfl, rfl, ha, hne, by rw [List.append_nil]; exact r, But.refl _ _⟩
  case round =>
    clear r ha hne
    obtain ⟨a', c', p, q, rfl, rfl, hq, hne, hr, hbut⟩ := hrel
    by_cases h0 : q.length = 0
    · have k0 : ¬ (0 : Int) < (q.length : Int) := by omega
      obtain rfl : q = [] := List.eq_nil_of_length_eq_zero h0
      rw [List.append_nil]
      clear h0
      go_wp2_with fail
      go_end0
      exact ⟨rfl, hr, hbut⟩
    · have k0 : (0 : Int) < (q.length : Int) := by omega
      obtain ⟨B, O, rfl⟩ := hq.addr (by omega)
      have hBh : B ≠ h := hne _ rfl (by omega)
      have hcap := hq.1
      have hg := hr.g
      obtain ⟨N, hN⟩ : ∃ N, N = (l ++ p).length := ⟨_, rfl⟩
      rw [← hN] at hg
      obtain ⟨e, he⟩ : ∃ e, e = N % 64 := ⟨_, rfl⟩
      obtain ⟨K, hK⟩ : ∃ K, K = Nat.min q.length (64 - e) := ⟨_, rfl⟩
      have hK1 : K ≤ q.length := by rw [hK]; exact Nat.min_le_left _ _
      have hK2' : K ≤ 64 - e := by rw [hK]; exact Nat.min_le_right _ _
      have hK2 : e + K ≤ 64 := by omega
      have hK3 : 0 < K := by rw [hK]; exact Nat.lt_min.2 ⟨by omega, by omega⟩
      obtain ⟨X, hX⟩ : ∃ X, X = q.take K := ⟨_, rfl⟩
      have hXl : X.length = K := by rw [hX, List.length_take]; omega
      obtain ⟨M, hM⟩ : ∃ M, M = N + K := ⟨_, rfl⟩
      have hlen : N + q.length ≤ 1000000000000 := by rw [List.length_append] at hm; rw [hN, List.length_append]; omega
      have hn := hg.n
      have k1 : (N : Int) % 64 = (e : Int) := by omega
      have k4 : (N : Int).tmod 64 = (e : Int) := by rw [Int.tmod_eq_emod_of_nonneg (by omega)]; omega
      have k2 : (e : Int) < 64 := by omega
      have k3 : (e : Int) ≤ 64 := by omega
      have k5 : ¬ (64 : Nat) = e := by omega
      have k6 : (N : Int) + (K : Int) = (M : Int) := by omega
      have k7 : (M : Int) ≤ 1000000000000 := by omega
      have k8 : (K : Int) ≤ (q.length : Int) := by omega
      have k9 : (K : Int) ≤ (c' : Int) := by omega
      have kc : (q.length : Int) ≤ (c' : Int) := by omega
      obtain ⟨A, hA⟩ : ∃ A, (if c' = K then (⟨B, O, none⟩ : Addr) else ⟨B, O + K, none⟩) = A := ⟨_, rfl⟩
      have hA2 : (if c' = K then some (⟨B, O, none⟩ : Addr) else some ⟨B, O + K, none⟩) = some A := by rw [← hA]; split <;> rfl
      have hAb : ∀ ad, some A = some ad → 0 < (q.drop K).length → ad.block ≠ h := fun ad had _ => by
        cases had; rw [← hA]; split <;> exact hBh
      have hq' : Holds wr (some A) (c' - K) (q.drop K) := by
        by_cases hc : c' = K
        · have : q.drop K = [] := List.drop_of_length_le (by omega)
          rw [this]; exact ⟨by simp, fun h => (by cases h), fun _ _ _ _ hu => by simp [cs] at hu⟩
        · rw [← hA, if_neg hc]
          refine ⟨by rw [List.length_drop]; omega, fun h => (by cases h), fun ad had i u hu => ?_⟩
          cases had
          have hi : i < (q.drop K).length := by have := (List.getElem?_eq_some_iff.1 hu).1; rwa [cs_length] at this
          rw [List.length_drop] at hi
          have e' : (cs (q.drop K))[i]? = (cs q)[K + i]? := by simp [cs]
          rw [e'] at hu
          have := hq.2.2 _ rfl (K + i) u hu
          rw [Addr.add_lit] at this ⊢
          rwa [Nat.add_assoc]
      have hG := hg.into (e := e) (p := X) (by omega)
      have hsrc : ∀ j v, (cs X)[j]? = some v → wr.drew.cell? ((⟨B, O, none⟩ : Addr).add j) = some v := fun j v hv => by
        have hj : j < K := by have := (List.getElem?_eq_some_iff.1 hv).1; rwa [cs_length, hXl] at this
        refine hq.2.2 _ rfl j v ?_
        rw [hX, cs, List.map_take, List.getElem?_take, if_pos hj] at hv
        exact hv
      have hcl : (cs X).length = Nat.min q.length (64 - e) := by rw [cs_length, hXl, hK]
      have hth : wr.drew.there h (9 + e) (cs X).length := by
        rw [cs_length, hXl]; exact there_mid hg.th _ _ (by omega)
      have hone := cs_one X
      have hb2 : But h w (wr.drew.setCells h (9 + e) (cs X)) := But.cells _ _ _ hbut.drew
      have hG2 : RepG (wr.drew.setCells h (9 + e) (cs X)) h (Sm.state (l ++ p)) (Sm.into (Sm.tail (l ++ p)) X e) N := (RepG.into (hg.below (Below.refl _ _).drew) (by omega))
      have hq2 : Holds (wr.drew.setCells h (9 + e) (cs X)) (some A) (c' - K) (q.drop K) := (But.cells (cs X) (9 + e) wr.drew (But.refl h wr.drew)).holds hq'.drew hAb
      have hcK : (cs X).length = K := by rw [cs_length, hXl]
      have HE : Hid (e = N % 64 ∧ N = (l ++ p).length ∧ M = N + K ∧ X = q.take K ∧ X.length = K) := ⟨he, hN, hM, hX, hXl⟩
      have h63 : e + K ≤ 64 := hK2
      clear he hN hK hX hM hXl hG hq' hr hg hbut hlen hK2 hK2'
      go_wp2_with fail
      go_still_tail 10, (by kernel_rfl)
      refine wpList_copy_ex rfl _ _ 38 38 rfl 5 Tryd.underlying38 Tryd.sizeU8 h (9 + e) (64 - e) (64 - e) ⟨B, O, none⟩ q.length c' rfl rfl (cs X) hcl hsrc hth hone ?_
      intro w2 hw2
      change wr.drew.setCells h (9 + e) (cs X) = w2 at hw2
      rw [hw2] at hb2 hG2 hq2
      clear hw2 hsrc hth hn
      have hn2 := hG2.n
      have hf2 := (hG2.th 73 (by omega)).2
      rw [Nat.zero_add] at hf2
      rw [hcK]
      have hG3 := hG2.len M (.int .i64 (M : Int)) rfl
      have hb3 := hb2.set 73 (.int .i64 (M : Int))
      have hq3 := (But.set (But.refl h w2) 73 (.int .i64 (M : Int))).holds hq2 hAb
      by_cases h64 : e + K = 64
      · obtain ⟨he, hN, hM, hX, hXl⟩ := HE.out
        have km : (M : Int) % 64 = 0 := by omega
        have hnew := Sm.add_full (l ++ p) X (by rw [← hN, ← he, hXl]; exact h64)
        rw [List.append_assoc, ← hN, ← he] at hnew
        have HNEW : Hid (Sm.state (l ++ (p ++ X)) = Sm.after (Sm.state (l ++ p)) (Sm.into (Sm.tail (l ++ p)) X e) ∧ Sm.tail (l ++ (p ++ X)) = Sm.zeros 64) := hnew
        clear hnew he hN hM hX hXl
        go_wp2_with fail
        generalize w2.setCell ⟨h, 73, none⟩ (.int .i64 (M : Int)) = w3 at hG3 hb3 hq3 ⊢
        have L3 : Laid w3.drew := (hb3.laid hh hL).below (Below.refl _ _).drew
        obtain ⟨ST, eST⟩ : ∃ ST, ST = Sm.state (l ++ p) := ⟨_, rfl⟩
        obtain ⟨TL, eTL⟩ : ∃ TL, TL = Sm.into (Sm.tail (l ++ p)) X e := ⟨_, rfl⟩
        rw [← eST, ← eTL] at hG3
        have HST : Hid (ST = Sm.state (l ++ p) ∧ TL = Sm.into (Sm.tail (l ++ p)) X e) := ⟨eST, eTL⟩
        clear eST eTL hG2 hb2 hq2 hn2 hf2
        have hls := hG3.ls
        have hlt := hG3.lt
        have al := Sm.after_length ST TL hls
        have iS : (Tryd.prog.info? 97).map (·.size) = some (ws ST).length := by rw [ws_length, hls]; exact Tryd.infoState
        have iB : (Tryd.prog.info? 98).map (·.size) = some (cs TL).length := by rw [cs_length, hlt]; exact Tryd.infoBlock
        have iZ : (Tryd.prog.info? 98).map (·.size) = some (cs (Sm.zeros 64)).length := Tryd.infoBlock
        have oZ := cs_one (Sm.zeros 64)
        have iS4 : (Tryd.prog.info? 97).map (·.size) = some (ws (Sm.after ST TL)).length := by rw [ws_length, al]; exact Tryd.infoState
        have oS4 := ws_one (Sm.after ST TL)
        have lS4 : (ws (Sm.after ST TL)).length = 8 := by rw [ws_length, al]
        have hu40 := Tryd.underlying97
        have hu42 := Tryd.underlying98
        have y1 := hG3.st
        have y2 := hG3.tl
        have y3 : w3.there h 1 (ws (Sm.after ST TL)).length := by rw [lS4]; exact there_mid hG3.th 1 8 (Nat.le_of_ble_eq_true rfl)
        refine wp_region_any (by kernel_rfl) ?_
        refine wpAny_take (i := 0) (v := .pointer (some ⟨h, 0, none⟩)) rfl (by kernel_rfl) (by kernel_rfl) (by kernel_rfl) (fun _ _ _ h => h) (.inl ⟨by kernel_rfl, fun w => by kernel_rfl⟩) ?_
        refine wpAny_take (i := 1) (v := .pointer (some ⟨h, 0, none⟩)) rfl (by kernel_rfl) (by kernel_rfl) (by kernel_rfl) (fun _ _ _ h => h) (.inl ⟨by kernel_rfl, fun w => by kernel_rfl⟩) ?_
        refine wpAny_take (i := 2) (v := .pointer (some ⟨h, 0, none⟩)) rfl (by kernel_rfl) (by kernel_rfl) (by kernel_rfl) (fun _ _ _ h => h) (.inl ⟨by kernel_rfl, fun w => by kernel_rfl⟩) ?_
        refine wpAny_take (i := 3) (v := .pointer (some ⟨h, 1, none⟩)) rfl (by kernel_rfl) (by kernel_rfl) (by kernel_rfl) (fun _ _ _ h => h) (.inl ⟨by kernel_rfl, fun w => by kernel_rfl⟩) ?_
        refine wpAny_take (i := 5) (v := .pointer (some ⟨h, 0, none⟩)) rfl (by kernel_rfl) (by kernel_rfl) (by kernel_rfl) (fun _ _ _ h => h) (.inl ⟨by kernel_rfl, fun w => by kernel_rfl⟩) ?_
        refine wpAny_take (i := 6) (v := .pointer (some ⟨h, 0, none⟩)) rfl (by kernel_rfl) (by kernel_rfl) (by kernel_rfl) (fun _ _ _ h => h) (.inl ⟨by kernel_rfl, fun w => by kernel_rfl⟩) ?_
        refine wpAny_take (i := 7) (v := .pointer (some ⟨h, 9, none⟩)) rfl (by kernel_rfl) (by kernel_rfl) (by kernel_rfl) (fun _ _ _ h => h) (.inl ⟨by kernel_rfl, fun w => by kernel_rfl⟩) ?_
        refine wpAny_all (rs := [4, 8]) (by kernel_rfl) (by decide) ?_
        intro i hi
        have hi2 : i = 4 ∨ i = 8 := by simpa using hi
        clear hi
        rcases hi2 with rfl | rfl
        · refine wpOp_load_mid rfl rfl 97 _ rfl h 1 (by kernel_rfl) (ws ST) _ y1 hu40 rfl iS ?_
          refine wpAny_all (rs := [8]) (by kernel_rfl) (by decide) ?_
          intro i hi
          obtain rfl := List.mem_singleton.1 hi
          refine wpOp_load_mid rfl rfl 98 _ rfl h 9 (by kernel_rfl) (cs TL) _ y2 hu42 rfl iB ?_
          refine wpAny_all (rs := [9]) (by kernel_rfl) (by decide) ?_
          intro i hi
          obtain rfl := List.mem_singleton.1 hi
          refine wpOp_enter rfl rfl (f := 55) (args := #[wa ST, ba TL]) (by kernel_rfl) (after_any ST TL w3.drew hls hlt L3) ?_
          intro w4 hb4
          have bD : Below w3.heap.size w3 w4 := Below.then (Below.refl w3.heap.size w3).drew hb4
          have hG4 := hG3.below bD
          have hb4' := hb3.below bD
          have hq4 := hq3.below bD
          have t5 := there_below y3 bD
          refine wpAny_take (i := 10) (v := .pointer (some ⟨h, 0, none⟩)) rfl (by kernel_rfl) (by kernel_rfl) (by kernel_rfl) (fun _ _ _ h => h) (.inl ⟨by kernel_rfl, fun w => by kernel_rfl⟩) ?_
          refine wpAny_take (i := 11) (v := .pointer (some ⟨h, 1, none⟩)) rfl (by kernel_rfl) (by kernel_rfl) (by kernel_rfl) (fun _ _ _ h => h) (.inl ⟨by kernel_rfl, fun w => by kernel_rfl⟩) ?_
          refine wpAny_all (rs := [12]) (by kernel_rfl) (by decide) ?_
          intro i hi
          obtain rfl := List.mem_singleton.1 hi
          refine wpOp_store_mid rfl rfl 97 _ _ rfl h 1 (ws (Sm.after ST TL)) (by kernel_rfl) (by kernel_rfl) t5 iS4 oS4 ?_
          refine wpAny_done (by kernel_rfl) ?_ _
          have hG5 := hG4.state (Sm.after ST TL) al
          have hb5 := But.cells (ws (Sm.after ST TL)) 1 w4 hb4'
          have hq5 := (But.cells (ws (Sm.after ST TL)) 1 w4 (But.refl h w4)).holds hq4 hAb
          generalize w4.setCells h 1 (ws (Sm.after ST TL)) = w5 at hG5 hb5 hq5 ⊢
          have t6 : w5.there h 9 (cs (Sm.zeros 64)).length := there_mid hG5.th 9 64 (Nat.le_of_ble_eq_true rfl)
          clear hG3 hG4 hb3 hb4 hb4' hq3 hq4 L3 bD y1 y2 y3 t5 iS iB iS4 oS4 lS4
          go_wp2_with (refine wpList_store_ex rfl 98 _ _ rfl h 9 (cs (Sm.zeros 64)) rfl rfl t6 iZ oZ ?_; intro w6 hw6; have hG6 := hG5.tail (Sm.zeros 64) (Sm.zeros_length 64); have hb6 := But.cells (cs (Sm.zeros 64)) 9 w5 hb5; have hq6 := (But.cells (cs (Sm.zeros 64)) 9 w5 (But.refl h w5)).holds hq5 hAb; rw [hw6] at hG6 hb6 hq6; clear t6 hw6; simp only [Act.put])
          obtain ⟨he, hN, hM, hX, hXl⟩ := HE.out
          obtain ⟨n1, n2⟩ := HNEW.out
          obtain ⟨eST, eTL⟩ := HST.out
          refine ⟨⟨some A, c' - K, p ++ X, q.drop K, by rw [List.length_drop], ?_, hq6, hAb, ?_, hb6⟩, ?_⟩
          · rw [hX, List.append_assoc, List.take_append_drop]
          · exact hG6.rep (by rw [n1, eST, eTL]) n2.symm (by rw [hM, hN, ← List.append_assoc, List.length_append (bs := X), hXl])
          · simp [sliceLen]; omega
        · refine wpOp_load_mid rfl rfl 98 _ rfl h 9 (by kernel_rfl) (cs TL) _ y2 hu42 rfl iB ?_
          refine wpAny_all (rs := [4]) (by kernel_rfl) (by decide) ?_
          intro i hi
          obtain rfl := List.mem_singleton.1 hi
          refine wpOp_load_mid rfl rfl 97 _ rfl h 1 (by kernel_rfl) (ws ST) _ y1 hu40 rfl iS ?_
          refine wpAny_all (rs := [9]) (by kernel_rfl) (by decide) ?_
          intro i hi
          obtain rfl := List.mem_singleton.1 hi
          refine wpOp_enter rfl rfl (f := 55) (args := #[wa ST, ba TL]) (by kernel_rfl) (after_any ST TL w3.drew hls hlt L3) ?_
          intro w4 hb4
          have bD : Below w3.heap.size w3 w4 := Below.then (Below.refl w3.heap.size w3).drew hb4
          have hG4 := hG3.below bD
          have hb4' := hb3.below bD
          have hq4 := hq3.below bD
          have t5 := there_below y3 bD
          refine wpAny_take (i := 10) (v := .pointer (some ⟨h, 0, none⟩)) rfl (by kernel_rfl) (by kernel_rfl) (by kernel_rfl) (fun _ _ _ h => h) (.inl ⟨by kernel_rfl, fun w => by kernel_rfl⟩) ?_
          refine wpAny_take (i := 11) (v := .pointer (some ⟨h, 1, none⟩)) rfl (by kernel_rfl) (by kernel_rfl) (by kernel_rfl) (fun _ _ _ h => h) (.inl ⟨by kernel_rfl, fun w => by kernel_rfl⟩) ?_
          refine wpAny_all (rs := [12]) (by kernel_rfl) (by decide) ?_
          intro i hi
          obtain rfl := List.mem_singleton.1 hi
          refine wpOp_store_mid rfl rfl 97 _ _ rfl h 1 (ws (Sm.after ST TL)) (by kernel_rfl) (by kernel_rfl) t5 iS4 oS4 ?_
          refine wpAny_done (by kernel_rfl) ?_ _
          have hG5 := hG4.state (Sm.after ST TL) al
          have hb5 := But.cells (ws (Sm.after ST TL)) 1 w4 hb4'
          have hq5 := (But.cells (ws (Sm.after ST TL)) 1 w4 (But.refl h w4)).holds hq4 hAb
          generalize w4.setCells h 1 (ws (Sm.after ST TL)) = w5 at hG5 hb5 hq5 ⊢
          have t6 : w5.there h 9 (cs (Sm.zeros 64)).length := there_mid hG5.th 9 64 (Nat.le_of_ble_eq_true rfl)
          clear hG3 hG4 hb3 hb4 hb4' hq3 hq4 L3 bD y1 y2 y3 t5 iS iB iS4 oS4 lS4
          go_wp2_with (refine wpList_store_ex rfl 98 _ _ rfl h 9 (cs (Sm.zeros 64)) rfl rfl t6 iZ oZ ?_; intro w6 hw6; have hG6 := hG5.tail (Sm.zeros 64) (Sm.zeros_length 64); have hb6 := But.cells (cs (Sm.zeros 64)) 9 w5 hb5; have hq6 := (But.cells (cs (Sm.zeros 64)) 9 w5 (But.refl h w5)).holds hq5 hAb; rw [hw6] at hG6 hb6 hq6; clear t6 hw6; simp only [Act.put])
          obtain ⟨he, hN, hM, hX, hXl⟩ := HE.out
          obtain ⟨n1, n2⟩ := HNEW.out
          obtain ⟨eST, eTL⟩ := HST.out
          refine ⟨⟨some A, c' - K, p ++ X, q.drop K, by rw [List.length_drop], ?_, hq6, hAb, ?_, hb6⟩, ?_⟩
          · rw [hX, List.append_assoc, List.take_append_drop]
          · exact hG6.rep (by rw [n1, eST, eTL]) n2.symm (by rw [hM, hN, ← List.append_assoc, List.length_append (bs := X), hXl])
          · simp [sliceLen]; omega
      · obtain ⟨he, hN, hM, hX, hXl⟩ := HE.out
        have km : ¬ (M : Int) % 64 = 0 := by omega
        have hnew := Sm.add_part (l ++ p) X (by rw [← hN, ← he, hXl]; omega)
        rw [List.append_assoc, ← hN, ← he] at hnew
        have HNEW : Hid (Sm.state (l ++ (p ++ X)) = Sm.state (l ++ p) ∧ Sm.tail (l ++ (p ++ X)) = Sm.into (Sm.tail (l ++ p)) X e) := hnew
        clear hnew he hN hM hX hXl
        go_wp2_with fail
        obtain ⟨he, hN, hM, hX, hXl⟩ := HE.out
        obtain ⟨n1, n2⟩ := HNEW.out
        refine ⟨⟨some A, c' - K, p ++ X, q.drop K, by rw [List.length_drop], ?_, hq3, hAb, ?_, hb3⟩, ?_⟩
        · rw [hX, List.append_assoc, List.take_append_drop]
        · exact hG3.rep n1.symm n2.symm (by rw [hM, hN, ← List.append_assoc, List.length_append (bs := X), hXl])
        · simp [sliceLen]; omega
end Go.Proofs.YtfpdiafedoppnaaDoor
