/-
  New: a ring of some principals, or why not.
-/
import Derived.Test.YtfpdiafedoppnaaDoorRn
import Derived.Test.YtfpdiafedoppnaaDoorMKey
import Derived.Test.YtfpdiafedoppnaaDoorRb
import Derived.Carry
import Derived.Great.BuildSlice
namespace Go.Proofs.YtfpdiafedoppnaaDoor
open Go.RowKit

set_option maxRecDepth 100000 in
set_option maxHeartbeats 1600000 in
theorem new6_big (w : World) (a : Option Addr) (c : Nat) (seed : Int) (N : List (List UInt8)) (hb : ¬ N.length ≤ 6) :
    Calls Tryd.prog 9 #[.int .i64 seed, .slice a N.length c] w fun e w' => e = .returned (.tuple #[.pointer none, .int .i64 3]) ∧ w = w' := by
  have q0 : (6 : Int) < (N.length : Int) := by omega
  clear hb
  go_enter Tryd.func9, Tryd.ntmps9
  go_wp2_with fail
  go_ret2
  exact ⟨rfl, rfl⟩
set_option maxRecDepth 100000 in
set_option maxHeartbeats 1600000 in
theorem new6_arg (w : World) (a : Option Addr) (c : Nat) (seed : Int) (N : List (List UInt8)) (h : Row sK w a c N) (hb : N.length ≤ 6) (hm : ¬ may N) :
    Calls Tryd.prog 9 #[.int .i64 seed, .slice a N.length c] w fun e w' => e = .returned (.tuple #[.pointer none, .int .i64 2]) ∧ w = w' := by
  have q0 : ¬ (6 : Int) < (N.length : Int) := by omega
  go_enter Tryd.func9, Tryd.ntmps9
  go_wp2_with fail
  refine (mayBe6 w a c N h).mono ?_
  rintro _ w1 ⟨⟨d, rfl, hd⟩, rfl⟩
  obtain rfl : d = false := by
    cases d with
    | false => rfl
    | true => exact absurd (hd.1 rfl) hm
  clear hd hm hb
  go_wp2_with fail
  go_ret2
  exact ⟨rfl, rfl⟩

/-- a ring in the making: its first principals -/
structure NewAt (w0 wr : World) (seed : Int) (N : List (List UInt8)) (k : Nat) (v : Value) : Prop where
  ring : wr.heap[w0.heap.size + 1]? = some (.cells #[v, .map (some w0.heap.size)] 58)
  row : wr.ownsRow (w0.heap.size + 2) 63 (pK seed).k v (N.take k).length ((N.take k).flatMap (pK seed).enc)
  book : BookAt wr w0.heap.size []
  bel : Below w0.heap.size w0 wr
  size : w0.heap.size + 2 ≤ wr.heap.size
theorem NewAt.c0 {w0 wr : World} {seed : Int} {N : List (List UInt8)} {k : Nat} {v : Value} (h : NewAt w0 wr seed N k v) : wr.cell? ⟨w0.heap.size + 1, 0, none⟩ = some v := by rw [heap_cell h.ring]; rfl
theorem NewAt.below {w0 wr w' : World} {seed : Int} {N : List (List UInt8)} {k : Nat} {v : Value} (h : NewAt w0 wr seed N k v) (b : Below wr.heap.size wr w') : NewAt w0 w' seed N k v :=
  ⟨below_heap b h.ring, ownsRow_keep h.row (Safe.below b), h.book.block (b.block _ h.book.lt), Below.then h.bel b, Nat.le_trans h.size b.size⟩
/-- one more -/
theorem NewAt.next {w0 wr w' : World} {seed : Int} {N : List (List UInt8)} {k : Nat} {v v' : Value} (h : NewAt w0 wr seed N k v) (hk : k < N.length) (ho : w'.ownsRow (w0.heap.size + 2) 63 (pK seed).k v' (N.take k ++ [N[k]]).length ((N.take k ++ [N[k]]).flatMap (pK seed).enc)) (hg : wr.grownBy w' v.ownBlock) :
    v'.oneCell' = true ∧ w'.heap[w0.heap.size + 1]? = some (.cells #[v, .map (some w0.heap.size)] 58) ∧ ∀ w4 : World, w4.heap[w0.heap.size + 1]? = some (.cells #[v', .map (some w0.heap.size)] 58) → But (w0.heap.size + 1) w' w4 → NewAt w0 w4 seed N (k + 1) v' := by
  have hown : ∀ j, v.ownBlock = some j → w0.heap.size + 2 ≤ j := fun j hj => by
    rcases h.row.2 with ⟨h0, _⟩ | ⟨g, cap, cur, hv, hb, _⟩
    · rw [h0] at hj; cases hj
    · rw [hv] at hj; cases hj; exact hb
  have h1 : v'.oneCell' = true := by
    rcases ho.2 with ⟨h0, _⟩ | ⟨g, cap, cur, hv, hb, _⟩
    · rw [h0]; rfl
    · rw [hv]; rfl
  have hB : Below (w0.heap.size + 2) wr w' := (Below.refl _ _).grown hg h.size hown
  have hr : w'.heap[w0.heap.size + 1]? = some (.cells #[v, .map (some w0.heap.size)] 58) := (hB.block _ (by omega)).trans h.ring
  refine ⟨h1, hr, fun w4 hs hbut => ⟨hs, ?_, ?_, ?_, ?_⟩⟩
  · rw [← List.take_append_getElem hk]
    exact ownsRow_keep ho (Safe.but hbut hr (by decide))
  · exact h.book.block (by rw [hbut.block _ (by have := h.size; have := hB.size; omega) (by omega)]; exact hB.block _ (by omega))
  · exact (h.bel.trans (hB.mono (by omega))).trans (hbut.lower (by omega) (by have := h.size; have := hB.size; omega))
  · have := h.size; have := hB.size; have := hbut.size; omega

/-- all of them -/
theorem NewAt.done {w0 wr : World} {seed : Int} {N : List (List UInt8)} {v : Value} (h : NewAt w0 wr seed N N.length v) (hm : may N) (hb : N.length ≤ 6) (s0 : -9223372036854775808 ≤ seed) (s1 : seed ≤ 9223372036854775807) : ∃ g cap, RingAt wr (w0.heap.size + 1) g cap w0.heap.size seed N [] := by
  have hr := h.row
  rw [List.take_length] at hr
  have hring := h.ring
  obtain ⟨a, c, hv, hrow, _⟩ := own_row (D := pK seed) hr (by omega)
  rcases hr.2 with ⟨_, h0⟩ | ⟨g, cap, cur, hv', _⟩
  · have := hm.1; omega
  · rw [hv'] at hv
    cases hv
    rw [hv'] at hring
    exact ⟨g, _, hring, hrow, h.book, hb, fun n hn => by
      obtain ⟨i, hi, rfl⟩ := List.getElem_of_mem hn
      exact (hm.2 i hi hi).2.1, s0, s1, by simp⟩

set_option maxRecDepth 100000 in
set_option maxHeartbeats 1600000 in
theorem new6_ok (w : World) (a : Option Addr) (c : Nat) (seed : Int) (N : List (List UInt8)) (h : Row sK w a c N) (hL : Laid w) (hb : N.length ≤ 6) (hm : may N) (s0 : -9223372036854775808 ≤ seed) (s1 : seed ≤ 9223372036854775807) :
    Calls Tryd.prog 9 #[.int .i64 seed, .slice a N.length c] w fun e w' => ∃ rb, e = .returned (.tuple #[.pointer (some ⟨rb, 0, none⟩), .int .i64 0]) ∧ (∃ g cap bm, RingAt w' rb g cap bm seed N [] ∧ w.heap.size ≤ bm) ∧ Below w.heap.size w w' := by
  have q0 : ¬ (6 : Int) < (N.length : Int) := by omega
  have hmm := @run_makeMap Tryd.prog
  go_enter Tryd.func9, Tryd.ntmps9
  go_wp2_with fail
  refine (mayBe6 w a c N h).mono ?_
  rintro _ w1 ⟨⟨d, rfl, hd⟩, rfl⟩
  obtain rfl : d = true := hd.2 hm
  have Hm := hideP hm
  clear hd hm
  go_wp2_with fail
  have A0 : NewAt w ((w.alloc (.map #[] 0)).alloc (.cells #[.slice none 0 0, .map (some w.heap.size)] 58)) seed N 0 (.slice none 0 0) := by
    have e1 : (w.alloc (.map #[] 0)).heap.size = w.heap.size + 1 := by simp
    have b2 := below_alloc (w.alloc (.map #[] 0)) (.cells #[.slice none 0 0, .map (some w.heap.size)] 58)
    refine ⟨?_, ⟨by simp, .inl ⟨rfl, by simp⟩⟩, (book_new w).block (b2.block _ (by omega)), Below.then (below_alloc w _) b2, by simp⟩
    have := heap_alloc_new (w.alloc (.map #[] 0)) (.cells #[.slice none 0 0, .map (some w.heap.size)] 58)
    rwa [e1] at this
  have HL : Hid (∀ i (h : i < N.length), N[i].length ≤ 32) := hideP fun i h => (Hm.out.2 i h h).2.1
  have mixed : Tryd.prog.follows .mixedOrders = true := by kernel_rfl
  go_loopw [20] (fun v wr => ∃ k : Nat, v = .int .i64 (k : Int) ∧ k ≤ N.length ∧ ∃ u, NewAt w wr seed N k u) (fun v _ => N.length - (intOf v).toNat)
  case atStart => exact ⟨0, rfl, by omega, _, A0⟩
  case round =>
    obtain ⟨k, rfl, hk, u, hA⟩ := hrel
    clear A0
    by_cases hlt : k < N.length
    · have q1 : (k : Int) < (N.length : Int) := by omega
      obtain ⟨b, o, rfl⟩ := h.addr (by omega)
      have c1 := (h.below hA.bel (Nat.le_refl _)).text k hlt
      have ln := HL.out k hlt
      have HX := hideP (fun (W W' : World) (v' : Value) (hW : NewAt w W seed N k u) => hW.next hlt (w' := W') (v' := v'))
      have hR := fun W => row_new (pK seed) W (str N[k] :: cs (Mm.pkey seed N[k])).toArray 63 N[k] rfl
      generalize N[k] = n at *
      go_wp2_with fail
      have hLd := (hL.below hA.bel).below ((Below.refl wr.heap.size wr).drew)
      have lK := Mm.pkey_length seed n
      have bP := fun W => build_principal n (Mm.pkey seed n) lK W
      have lP : Hid ((str n :: cs (Mm.pkey seed n)).length = 33) := hideP (by rw [List.length_cons, cs_length, lK])
      have c0 := hA.c0
      generalize Mm.pkey seed n = K at *
      refine wp_region_any mixed ?_
      refine wpAny_take (i := 0) (v := (.pointer (some ⟨w.heap.size + 1, 0, none⟩))) rfl (by kernel_rfl) (by kernel_rfl) (by kernel_rfl) (fun _ _ _ h => h) (.inl ⟨by kernel_rfl, fun w => by kernel_rfl⟩) ?_
      refine wpAny_take (i := 1) (v := (.pointer (some ⟨w.heap.size + 1, 0, none⟩))) rfl (by kernel_rfl) (by kernel_rfl) (by kernel_rfl) (fun _ _ _ h => h) (.inl ⟨by kernel_rfl, fun w => by kernel_rfl⟩) ?_
      refine wpAny_take (i := 2) (v := (.pointer (some ⟨w.heap.size + 1, 0, none⟩))) rfl (by kernel_rfl) (by kernel_rfl) (by kernel_rfl) (fun _ _ _ h => h) (.inl ⟨by kernel_rfl, fun w => by kernel_rfl⟩) ?_
      refine wpAny_take (i := 3) (v := (.pointer (some ⟨w.heap.size + 1, 0, none⟩))) rfl (by kernel_rfl) (by kernel_rfl) (by kernel_rfl) (fun _ _ _ h => h) (.inl ⟨by kernel_rfl, fun w => by kernel_rfl⟩) ?_
      refine wpAny_take (i := 5) (v := str n) rfl (by kernel_rfl) (by kernel_rfl) (by kernel_rfl) (fun _ _ _ h => h) (.inl ⟨by kernel_rfl, fun w => by kernel_rfl⟩) ?_
      refine wpAny_take (i := 6) (v := .int .i64 seed) rfl (by kernel_rfl) (by kernel_rfl) (by kernel_rfl) (fun _ _ _ h => h) (.inl ⟨by kernel_rfl, fun w => by kernel_rfl⟩) ?_
      refine wpAny_take (i := 7) (v := str n) rfl (by kernel_rfl) (by kernel_rfl) (by kernel_rfl) (fun _ _ _ h => h) (.inl ⟨by kernel_rfl, fun w => by kernel_rfl⟩) ?_
      refine wpAny_all (rs := [4, 8]) (by kernel_rfl) (by decide) ?_
      intro i hi
      have hi2 : i = 4 ∨ i = 8 := by simpa using hi
      clear hi
      rcases hi2 with rfl | rfl
      · refine wpOp_load_cel rfl rfl 55 _ rfl (w.heap.size + 1) 0 u (by kernel_rfl) Tryd.isAgg55 (by show wr.drew.cell? _ = _; exact c0) ?_
        refine wpAny_all (rs := [8]) (by kernel_rfl) (by decide) ?_
        intro i hi
        obtain rfl := List.mem_singleton.1 hi
        clear hi
        refine wpOp_enter rfl rfl (f := 26) (args := #[.int .i64 seed, str n]) (by kernel_rfl) (key_any seed n wr.drew hLd s0 s1 (by omega)) ?_
        intro w1 b1
        have A1 := hA.below (Below.then (Below.refl wr.heap.size wr).drew b1)
        have c2 := A1.c0
        refine wpAny_all (rs := [9]) (by kernel_rfl) (by decide) ?_
        intro i hi
        obtain rfl := List.mem_singleton.1 hi
        clear hi
        refine wpOp_of rfl rfl (wp_build2 63 _ _ rfl (str n) (ba K) (.agg (str n :: cs K).toArray) (by kernel_rfl) (by kernel_rfl) (bP w1) ?_)
        refine wpAny_all (rs := [10]) (by kernel_rfl) (by decide) ?_
        intro i hi
        obtain rfl := List.mem_singleton.1 hi
        clear hi
        refine wpOp_of rfl rfl (wp_build_one 55 63 _ rfl (str n :: cs K) _ 33 48 (by kernel_rfl) lP.out (by decide) (by decide) Tryd.underlying55 Tryd.infoPrincipal3 ?_)
        have A2 := A1.below (below_alloc w1 (.cells (str n :: cs K).toArray 63))
        refine wpAny_all (rs := [11]) (by kernel_rfl) (by decide) ?_
        intro i hi
        obtain rfl := List.mem_singleton.1 hi
        clear hi
        refine wpOp_of rfl rfl (wp_append_rec (pK seed) _ _ _ 55 63 rfl _ 48 Tryd.underlying55 Tryd.infoPrincipal3 rfl (w.heap.size + 2) u (N.take k) [n] ⟨w1.heap.size, 0, none⟩ 1 1 (by kernel_rfl) A2.row (by kernel_rfl) rfl (hR w1) A2.size (by simp; omega) (by simp; omega) ?_)
        intro v3 w3 o3 g3
        obtain ⟨o4, r4, A4⟩ := HX.out _ w3 v3 A2 o3 g3
        refine wpAny_take (i := 12) (v := (.pointer (some ⟨w.heap.size + 1, 0, none⟩))) rfl (by kernel_rfl) (by kernel_rfl) (by kernel_rfl) (fun _ _ _ h => h) (.inl ⟨by kernel_rfl, fun w => by kernel_rfl⟩) ?_
        refine wpAny_take (i := 13) (v := (.pointer (some ⟨w.heap.size + 1, 0, none⟩))) rfl (by kernel_rfl) (by kernel_rfl) (by kernel_rfl) (fun _ _ _ h => h) (.inl ⟨by kernel_rfl, fun w => by kernel_rfl⟩) ?_
        refine wpAny_all (rs := [14]) (by kernel_rfl) (by decide) ?_
        intro i hi
        obtain rfl := List.mem_singleton.1 hi
        clear hi
        refine wpOp_store_cel rfl rfl 55 _ _ rfl (w.heap.size + 1) 0 2 58 v3 #[v3, .map (some w.heap.size)] (by kernel_rfl) (by kernel_rfl) r4 rfl (by decide) (by kernel_rfl) o4 rfl ?_
        intro w4 r5 x5
        have A5 := A4 w4 r5 x5
        refine wpAny_done (by kernel_rfl) ?_ _
        clear A4 A2 A1 r4 r5 x5 g3 o3 HX hR
        go_wp2_with fail
        exact ⟨⟨k + 1, rfl, hlt, v3, A5⟩, by simp [intOf]; omega⟩
      · refine wpOp_enter rfl rfl (f := 26) (args := #[.int .i64 seed, str n]) (by kernel_rfl) (key_any seed n wr.drew hLd s0 s1 (by omega)) ?_
        intro w1 b1
        have A1 := hA.below (Below.then (Below.refl wr.heap.size wr).drew b1)
        have c2 := A1.c0
        refine wpAny_take (i := 9) (v := .agg (str n :: cs K).toArray) rfl (by kernel_rfl) (by kernel_rfl) (by kernel_rfl) (fun _ _ _ h => h) (.inl ⟨by kernel_rfl, fun W => run_build2 63 _ _ rfl (str n) (ba K) _ (by kernel_rfl) (by kernel_rfl) (bP W)⟩) ?_
        refine wpAny_all (rs := [4, 10]) (by kernel_rfl) (by decide) ?_
        intro i hi
        have hi2 : i = 4 ∨ i = 10 := by simpa using hi
        clear hi
        rcases hi2 with rfl | rfl
        · refine wpOp_load_cel rfl rfl 55 _ rfl (w.heap.size + 1) 0 u (by kernel_rfl) Tryd.isAgg55 c2 ?_
          refine wpAny_all (rs := [10]) (by kernel_rfl) (by decide) ?_
          intro i hi
          obtain rfl := List.mem_singleton.1 hi
          clear hi
          refine wpOp_of rfl rfl (wp_build_one 55 63 _ rfl (str n :: cs K) _ 33 48 (by kernel_rfl) lP.out (by decide) (by decide) Tryd.underlying55 Tryd.infoPrincipal3 ?_)
          have A2 := A1.below (below_alloc w1 (.cells (str n :: cs K).toArray 63))
          refine wpAny_all (rs := [11]) (by kernel_rfl) (by decide) ?_
          intro i hi
          obtain rfl := List.mem_singleton.1 hi
          clear hi
          refine wpOp_of rfl rfl (wp_append_rec (pK seed) _ _ _ 55 63 rfl _ 48 Tryd.underlying55 Tryd.infoPrincipal3 rfl (w.heap.size + 2) u (N.take k) [n] ⟨w1.heap.size, 0, none⟩ 1 1 (by kernel_rfl) A2.row (by kernel_rfl) rfl (hR w1) A2.size (by simp; omega) (by simp; omega) ?_)
          intro v3 w3 o3 g3
          obtain ⟨o4, r4, A4⟩ := HX.out _ w3 v3 A2 o3 g3
          refine wpAny_take (i := 12) (v := (.pointer (some ⟨w.heap.size + 1, 0, none⟩))) rfl (by kernel_rfl) (by kernel_rfl) (by kernel_rfl) (fun _ _ _ h => h) (.inl ⟨by kernel_rfl, fun w => by kernel_rfl⟩) ?_
          refine wpAny_take (i := 13) (v := (.pointer (some ⟨w.heap.size + 1, 0, none⟩))) rfl (by kernel_rfl) (by kernel_rfl) (by kernel_rfl) (fun _ _ _ h => h) (.inl ⟨by kernel_rfl, fun w => by kernel_rfl⟩) ?_
          refine wpAny_all (rs := [14]) (by kernel_rfl) (by decide) ?_
          intro i hi
          obtain rfl := List.mem_singleton.1 hi
          clear hi
          refine wpOp_store_cel rfl rfl 55 _ _ rfl (w.heap.size + 1) 0 2 58 v3 #[v3, .map (some w.heap.size)] (by kernel_rfl) (by kernel_rfl) r4 rfl (by decide) (by kernel_rfl) o4 rfl ?_
          intro w4 r5 x5
          have A5 := A4 w4 r5 x5
          refine wpAny_done (by kernel_rfl) ?_ _
          clear A4 A2 A1 r4 r5 x5 g3 o3 HX hR
          go_wp2_with fail
          exact ⟨⟨k + 1, rfl, hlt, v3, A5⟩, by simp [intOf]; omega⟩
        · refine wpOp_of rfl rfl (wp_build_one 55 63 _ rfl (str n :: cs K) _ 33 48 (by kernel_rfl) lP.out (by decide) (by decide) Tryd.underlying55 Tryd.infoPrincipal3 ?_)
          have A2 := A1.below (below_alloc w1 (.cells (str n :: cs K).toArray 63))
          refine wpAny_all (rs := [4]) (by kernel_rfl) (by decide) ?_
          intro i hi
          obtain rfl := List.mem_singleton.1 hi
          clear hi
          refine wpOp_load_cel rfl rfl 55 _ rfl (w.heap.size + 1) 0 u (by kernel_rfl) Tryd.isAgg55 A2.c0 ?_
          refine wpAny_all (rs := [11]) (by kernel_rfl) (by decide) ?_
          intro i hi
          obtain rfl := List.mem_singleton.1 hi
          clear hi
          refine wpOp_of rfl rfl (wp_append_rec (pK seed) _ _ _ 55 63 rfl _ 48 Tryd.underlying55 Tryd.infoPrincipal3 rfl (w.heap.size + 2) u (N.take k) [n] ⟨w1.heap.size, 0, none⟩ 1 1 (by kernel_rfl) A2.row (by kernel_rfl) rfl (hR w1) A2.size (by simp; omega) (by simp; omega) ?_)
          intro v3 w3 o3 g3
          obtain ⟨o4, r4, A4⟩ := HX.out _ w3 v3 A2 o3 g3
          refine wpAny_take (i := 12) (v := (.pointer (some ⟨w.heap.size + 1, 0, none⟩))) rfl (by kernel_rfl) (by kernel_rfl) (by kernel_rfl) (fun _ _ _ h => h) (.inl ⟨by kernel_rfl, fun w => by kernel_rfl⟩) ?_
          refine wpAny_take (i := 13) (v := (.pointer (some ⟨w.heap.size + 1, 0, none⟩))) rfl (by kernel_rfl) (by kernel_rfl) (by kernel_rfl) (fun _ _ _ h => h) (.inl ⟨by kernel_rfl, fun w => by kernel_rfl⟩) ?_
          refine wpAny_all (rs := [14]) (by kernel_rfl) (by decide) ?_
          intro i hi
          obtain rfl := List.mem_singleton.1 hi
          clear hi
          refine wpOp_store_cel rfl rfl 55 _ _ rfl (w.heap.size + 1) 0 2 58 v3 #[v3, .map (some w.heap.size)] (by kernel_rfl) (by kernel_rfl) r4 rfl (by decide) (by kernel_rfl) o4 rfl ?_
          intro w4 r5 x5
          have A5 := A4 w4 r5 x5
          refine wpAny_done (by kernel_rfl) ?_ _
          clear A4 A2 A1 r4 r5 x5 g3 o3 HX hR
          go_wp2_with fail
          exact ⟨⟨k + 1, rfl, hlt, v3, A5⟩, by simp [intOf]; omega⟩
    · have q1 : ¬ (k : Int) < (N.length : Int) := by omega
      obtain rfl : k = N.length := by omega
      obtain ⟨g, cap, hR⟩ := hA.done Hm.out hb s0 s1
      have HR := hideP hR
      have BW := hA.bel
      clear hR HL mixed
      go_wp2_with fail
      go_ret2
      exact ⟨_, rfl, ⟨g, cap, _, HR.out, Nat.le_refl _⟩, BW⟩
end Go.Proofs.YtfpdiafedoppnaaDoor
