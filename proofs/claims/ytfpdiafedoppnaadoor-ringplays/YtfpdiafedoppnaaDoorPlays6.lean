/-
  The walk of RingPlays: whatever is signed and verified, in whatever order: tags, answers, errors and the book are the document's, step by step.
-/
import Derived.Test.YtfpdiafedoppnaaDoorRu6
import Derived.Test.YtfpdiafedoppnaaDoorFew6
import Derived.Test.YtfpdiafedoppnaaDoorEq6
import Derived.Deep.DeepCutAuto
namespace Go.Proofs.YtfpdiafedoppnaaDoor
open Go.RowKit

theorem Tryd.infoAct : (Tryd.prog.info? 40).map (·.size) = some 5 := by kernel_rfl
theorem vf_own (seed : Int) (N : List (List UInt8)) (who dom txt : List UInt8) : vf seed N who dom txt (Mm.tag (Mm.pkey seed who) dom txt) = decide (who ∈ N) := by
  unfold vf; rw [beq_self_eq_true, Bool.and_true]
theorem Holds.low {w : World} {a : Option Addr} {c : Nat} {l : List UInt8} (h : Holds w a c l) {B : Nat} (hB : w.heap.size ≤ B) : ∀ ad, a = some ad → 0 < l.length → ad.block < B := fun _ ha h0 => Nat.lt_of_lt_of_le (h.block ha h0) hB

set_option maxRecDepth 100000 in
set_option maxHeartbeats 12800000 in
theorem ringPlays_walk (seed : Int) (a : Option Addr) (c : Nat) (N : List (List UInt8)) (la : Option Addr) (lc : Nat) (xs : List Av) (w : World) (hL : Laid w) (s0 : -9223372036854775808 ≤ seed) (s1 : seed ≤ 9223372036854775807) (h : Row sK w a c N) (_ : N.length * 16 ≤ reachBytes) (hl : Row aK w la lc xs) (hat : ∀ x ∈ xs, Av.At w x) :
    Calls Tryd.prog 4 #[.int .i64 seed, .slice a N.length c, .slice la xs.length lc] w fun e w' => e = .returned (.bool true) ∧ Below w.heap.size w w' := by
  have lfew := hl.few
  go_enter Tryd.func4, Tryd.ntmps4
  go_wp2_with fail
  refine (few6 w la lc xs.length xs rfl hl hat).mono ?_
  rintro _ w0 ⟨⟨d, rfl, hd⟩, b0⟩
  cases d with
  | false =>
    go_wp2_with fail
    refine (live6 w0 (hL.below b0)).mono ?_
    rintro _ w9 ⟨rfl, b9⟩
    go_wp2_with fail
    go_ret
    exact ⟨rfl, Below.then b0 b9⟩
  | true =>
  have hlight := hideP (hd rfl)
  clear hd
  go_wp2_with fail
  have h0 := h.below b0 (Nat.le_refl _)
  have nilLoop : True := trivial
  by_cases hb : N.length ≤ 6
  rotate_left
  · refine (new6_big w0 a c seed N hb).mono ?_
    rintro _ w1 ⟨rfl, rfl⟩
    go_wp2_with fail
    refine (rnew6_big w0 a c seed N hb).mono ?_
    rintro _ w2 ⟨rfl, rfl⟩
    go_wp2_with fail
    go_loopw [11] (fun v wr => v = .int .i64 0 ∧ w0 = wr) (fun _ _ => 0)
    case atStart => exact ⟨rfl, rfl⟩
    case round =>
      obtain ⟨rfl, rfl⟩ := hrel
      by_cases hz : 0 < xs.length
      · have q0 : (0 : Int) < (xs.length : Int) := by omega
        go_wp2_with fail
        refine (live6 w0 (hL.below b0)).mono ?_
        rintro _ w9 ⟨rfl, b9⟩
        go_wp2_with fail
        go_ret
        exact ⟨rfl, Below.then b0 b9⟩
      · have q0 : ¬ (0 : Int) < (xs.length : Int) := by omega
        go_wp2_with fail
        refine (live6 w0 (hL.below b0)).mono ?_
        rintro _ w9 ⟨rfl, b9⟩
        go_wp2_with fail
        go_ret
        exact ⟨rfl, Below.then b0 b9⟩
  by_cases hm : may N
  rotate_left
  · refine (new6_arg w0 a c seed N h0 hb hm).mono ?_
    rintro _ w1 ⟨rfl, rfl⟩
    go_wp2_with fail
    refine (rnew6 w0 a c seed N h0 hb s0 s1).mono ?_
    rintro _ w2 ⟨(⟨_, rfl⟩ | ⟨hm', _⟩), b2⟩
    rotate_left
    · exact absurd hm' hm
    have B2 := Below.then b0 b2
    go_wp2_with fail
    go_loopw [11] (fun v wr => v = .int .i64 0 ∧ w2 = wr) (fun _ _ => 0)
    case atStart => exact ⟨rfl, rfl⟩
    case round =>
      obtain ⟨rfl, rfl⟩ := hrel
      by_cases hz : 0 < xs.length
      · have q0 : (0 : Int) < (xs.length : Int) := by omega
        go_wp2_with fail
        refine (live6 w2 (hL.below B2)).mono ?_
        rintro _ w9 ⟨rfl, b9⟩
        go_wp2_with fail
        go_ret
        exact ⟨rfl, Below.then B2 b9⟩
      · have q0 : ¬ (0 : Int) < (xs.length : Int) := by omega
        go_wp2_with fail
        refine (live6 w2 (hL.below B2)).mono ?_
        rintro _ w9 ⟨rfl, b9⟩
        go_wp2_with fail
        go_ret
        exact ⟨rfl, Below.then B2 b9⟩
  refine (new6_ok w0 a c seed N h0 (hL.below b0) hb hm s0 s1).mono ?_
  rintro _ w1 ⟨rb, rfl, ⟨g, cap, bm, r1, f1⟩, b1⟩
  have B1 := Below.then b0 b1
  have F1 : w.heap.size ≤ bm := Nat.le_trans b0.size f1
  go_wp2_with fail
  refine (rnew6 w1 a c seed N (h.below B1 (Nat.le_refl _)) hb s0 s1).mono ?_
  rintro _ w2 ⟨(⟨hm', _⟩ | ⟨_, qb, na, nc, rfl, q2⟩), b2⟩
  · exact absurd hm hm'
  have B2 := Below.then B1 b2
  have r2 := r1.below b2
  have hwb : w.heap.size ≤ w1.heap.size := B1.size
  generalize w1.heap.size = base at *
  clear b0 b1 b2 h0 f1 r1 B1 hm hb nilLoop
  go_wp2_with fail
  go_loopw [11] (fun u wr => ∃ (k : Nat) (L : List P3) (v : Value), u = .int .i64 (k : Int) ∧ k ≤ xs.length ∧ RingAt wr rb g cap bm seed N L ∧ QAt wr base qb na nc v seed N L ∧ Below w.heap.size w wr) (fun u _ => xs.length - (intOf u).toNat)
  case atStart => exact ⟨0, [], _, rfl, by omega, r2, q2, B2⟩
  case round =>
    obtain ⟨k, L, v, rfl, hk, hr, hq, hbel⟩ := hrel
    clear r2 q2 B2
    by_cases hlt : k < xs.length
    rotate_left
    · have q0 : ¬ (k : Int) < (xs.length : Int) := by omega
      go_wp2_with fail
      refine (live6 wr (hL.below hbel)).mono ?_
      rintro _ w9 ⟨rfl, b9⟩
      go_wp2_with fail
      go_ret
      exact ⟨rfl, Below.then hbel b9⟩
    have q0 : (k : Int) < (xs.length : Int) := by omega
    obtain ⟨pb, po, rfl⟩ := hl.addr (by omega)
    have rr := (hl.below hbel (Nat.le_refl _)).range k hlt
    have hx := hat xs[k] (List.getElem_mem hlt)
    have zx := hlight.out xs[k] (List.getElem_mem hlt)
    generalize xs[k] = x at *
    change wr.rangeAt pb (po + k * 5) (av x) at rr
    have iA : (Tryd.prog.info? 40).map (·.size) = some (av x).length := Tryd.infoAct
    have oA : ∀ u ∈ av x, u.oneCell' = true := List.all_eq_true.1 (aK.one x)
    have bA := below_alloc wr (.cells (av x).toArray 40)
    have A1 : ActIn (wr.alloc (.cells (av x).toArray 40)) wr.heap.size x := ⟨heap_alloc_new wr _⟩
    have r1 := hr.below bA; have q1 := hq.below bA; have B1 := Below.then hbel bA
    have sx : x.dom.length + x.txt.length + x.tag.length ≤ 9000 := by have e : x.sz = x.txt.length + x.tag.length + x.dom.length := rfl; omega
    have full := hr.full
    clear bA zx hq hr hbel
    go_upto_region 11 with (first
      | (refine wpList_load_mid rfl 40 _ rfl pb (po + k * 5) rfl (av x) _ rr Tryd.underlying40 rfl iA ?_)
      | (refine wpList_store_new rfl 40 _ _ rfl wr.heap.size rfl (av x) rfl rfl rfl iA oA ?_))
    generalize wr.alloc (.cells (av x).toArray 40) = W1 at A1 r1 q1 B1 ⊢
    have hbl : ∀ ad, x.ta = some ad → 0 < x.txt.length → ad.block < base := hx.t.low hwb
    generalize wr.heap.size = A at *
    clear iA oA rr
    have c0 := A1.c0
    by_cases hk0 : x.kind = 0
    · have kq : (x.kind == 0) = true := by simpa using hk0
      have c1 := A1.c1; have c2 := A1.c2; have c3 := A1.c3
      go_wp2_with fail
      refine (sign6 W1 rb g cap bm seed N L x.who x.dom x.txt x.ta x.tc r1 (hL.below B1) (hx.t.below B1) hx.fits (by omega) (by omega)).mono ?_
      rintro _ w2 ⟨rfl, r2, x2⟩
      have B2 := But.under B1 x2 F1
      have A2 : ActIn w2 A x := ⟨r1.book.safe x2 _ _ _ A1.blk⟩
      have q2 := q1.safe (r1.book.safe x2 _) (r1.book.safe x2 _) (r1.book.safe x2 _)
      have lD := sgT_length seed N L x.who x.dom x.txt
      have HE : Hid (∃ E D L', sgE N L x.who x.dom x.txt = E ∧ sgT seed N L x.who x.dom x.txt = D ∧ sgL N L x.who x.dom x.txt = L') := hideP ⟨_, _, _, rfl, rfl, rfl⟩
      obtain ⟨E, D, L', hE1, hE2, hE3⟩ := HE.out
      rw [hE3] at r2
      rw [hE2] at lD
      rw [hE1, hE2]
      have H1 := hideP hE1; have H2 := hideP hE2; have H3 := hideP hE3
      clear hE1 hE2 hE3 HE c1 c2 c3 A1 r1 q1 B1 x2 c0
      have iD : Hid ((Tryd.prog.info? 42).map (·.size) = some (cs D).length) := hideP (by rw [cs_length, lD]; exact Tryd.infoDigest)
      have oD := cs_one D
      have zD : Hid (32 = (cs D).length) := hideP (by rw [cs_length, lD])
      have b3 := below_alloc w2 (.cells (cs D).toArray 42)
      have d3 : (w2.alloc (.cells (cs D).toArray 42)).heap[w2.heap.size]? = some (.cells (cs D).toArray 42) := heap_alloc_new w2 _
      have A3 := A2.below b3; have r3 := r2.below b3; have q3 := q2.below b3; have B3 := Below.then B2 b3
      have c1 := A3.c1; have c2 := A3.c2; have c3 := A3.c3
      clear A2 r2 q2 B2 b3
      go_wp2_with (refine wpList_store_new rfl 42 _ _ rfl w2.heap.size rfl (cs D) rfl rfl zD.out iD.out oD ?_)
      generalize w2.alloc (.cells (cs D).toArray 42) = w3 at A3 r3 q3 B3 c1 c2 c3 d3 ⊢
      generalize w2.heap.size = G2 at *
      refine (rsign6 w3 base qb na nc v seed N L x.who x.dom x.txt x.ta x.tc q3 (hx.t.below B3) hbl full hx.lw (by omega) (by omega)).mono ?_
      rintro _ w4 ⟨rfl, ⟨v4, q4⟩, K4, U4⟩
      rw [H3.out] at q4
      rw [H1.out, H2.out]
      have r4 := K4.ring r3
      have A4 : ActIn w4 A x := ⟨K4.safe _ (by decide) (by decide) _ _ A3.blk⟩
      have d4 := K4.safe 42 (by decide) (by decide) _ _ d3
      have B4 : Below w.heap.size w w4 := B3.trans (U4.mono hwb)
      clear c1 c2 c3 A3 r3 q3 B3 d3 K4 U4 H1 H2 H3
      have b5 := below_alloc w4 (.cells (cs D).toArray 42)
      have f5 := rangeAt_new w4 (cs D).toArray 42 (cs D) (by simp)
      have e5 : (w4.alloc (.cells (cs D).toArray 42)).rangeAt G2 0 (cs D) := by
        have := World.rangeAt_of_block (below_heap b5 d4) 0 32
        have hz : ((cs D).toArray.extract 0 (0 + 32)).toList = cs D := by
          have hl32 : (cs D).toArray.size = 32 := by simp [cs_length, lD]
          rw [Nat.zero_add, ← hl32, Array.extract_size]
        rwa [hz] at this
      have A5 := A4.below b5; have r5 := r4.below b5; have q5 := q4.below b5; have B5 := Below.then B4 b5
      have hEq := equalIn32 D D lD lD
      rw [beq_self_eq_true] at hEq
      have hEE : ((E : Int) == (E : Int)) = true := by simp
      clear A4 r4 q4 B4 b5 d4
      go_upto_region 22 with (first
        | (refine wpList_store_new rfl 42 _ _ rfl w4.heap.size rfl (cs D) rfl rfl zD.out iD.out oD ?_)
        | (refine wpList_load_mid rfl 42 _ rfl G2 0 rfl (cs D) _ e5 Tryd.underlying42 rfl iD.out ?_)
        | (refine wpList_load_mid rfl 42 _ rfl w4.heap.size 0 rfl (cs D) _ f5 Tryd.underlying42 rfl iD.out ?_))
      generalize w4.alloc (.cells (cs D).toArray 42) = w5 at A5 r5 q5 B5 ⊢
      clear e5 f5 hEq hEE iD oD zD lD

      obtain ⟨a9, c9, e9, _, _⟩ := own_row (D := qK) q5.book (by have := r5.full; omega)
      have E9 := hideP e9
      clear e9
      have pc1 := fun p : BelowBy w5 => cell_kept A5.c1 p; have pc2 := fun p : BelowBy w5 => cell_kept A5.c2 p; have pc3 := fun p : BelowBy w5 => cell_kept A5.c3 p
      have pq := fun p : BelowBy w5 => cell_kept (show w5.cell? ⟨qb, 2, none⟩ = some (.slice a9 (L').length c9) by rw [← E9.out]; exact q5.c2) p
      have cMade := fun p : BelowBy w5 => made6 p.w rb g cap bm seed N (L') x.who x.dom x.txt x.ta x.tc (r5.below p.h) (hx.t.below (Below.then B5 p.h)) hx.fits
      have cRM := fun p : BelowBy w5 => rmade6 p.w base qb na nc (v4) seed N (L') x.who x.dom x.txt x.ta x.tc (q5.below p.h) (hx.t.below (Below.then B5 p.h)) (by have := r5.full; omega)
      have cLen := fun p : BelowBy w5 => len6 p.w rb g cap bm seed N (L') (r5.below p.h)
      have hLen : (((L').length : Int) != ((L').length : Int)) = false := by simp
      have R9' : Hid (∀ W', Below w5.heap.size w5 W' → RingAt W' rb g cap bm seed N (L') ∧ QAt W' base qb na nc (v4) seed N (L')) := hideP fun W' hW => ⟨r5.below hW, q5.below hW⟩
      generalize hdd : decide ((x.who, x.dom, x.txt) ∈ (L')) = dd at *
      have hd1 : (dd != dd) = false := by cases dd <;> rfl
      clear hdd
      haveI : Inhabited (BelowBy w5) := ⟨⟨w5, Below.refl _ _⟩⟩
      clear r5 q5 A5 E9
      refine wp_region_quiet_below (by kernel_rfl) (by kernel_rfl) ?_
      repeat (quiet_step (first
        | (go_at_call 23; refine Calls.below_of (cMade _))
        | (go_at_call 24; refine Calls.below_of (cRM _))
        | (go_at_call 16; refine Calls.below_of_same (cLen _))))
      refine wpQuiet_nil ?_
      intro w9 hw'
      obtain ⟨⟨_, hb9⟩, rfl⟩ := hw'
      go_wp2_with fail
      exact ⟨⟨k + 1, L', v4, rfl, hlt, (R9'.out w9 hb9).1, (R9'.out w9 hb9).2, Below.then B5 hb9⟩, by simp [intOf]; omega⟩
    by_cases hk1 : x.kind = 1
    · have kq0 : (x.kind == 0) = false := by simpa using hk0
      have kq : (x.kind == 1) = true := by simpa using hk1
      go_upto_region 18 with fail

      have pk1 := fun p : BelowBy W1 => cell_kept A1.c1 p; have pk2 := fun p : BelowBy W1 => cell_kept A1.c2 p; have pk3 := fun p : BelowBy W1 => cell_kept A1.c3 p; have pk4 := fun p : BelowBy W1 => cell_kept A1.c4 p
      have cV := fun p : BelowBy W1 => verify6 p.w rb g cap bm seed N L x.who x.dom x.txt x.tag x.ta x.ga x.tag.length x.tc x.gc (r1.below p.h) (hL.below (Below.then B1 p.h)) (hx.t.below (Below.then B1 p.h)) rfl (hx.g.below (Below.then B1 p.h)) (by omega) (by omega)
      have cW := fun p : BelowBy W1 => rverify6 p.w base qb na nc v seed N L x.who x.dom x.txt x.tag x.ta x.ga x.tc x.gc (q1.below p.h) (hx.t.below (Below.then B1 p.h)) (hx.g.below (Below.then B1 p.h)) hx.lw (by omega) (by omega)
      generalize vf seed N x.who x.dom x.txt x.tag = V at *
      have hV : (V == V) = true := by simp
      haveI : Inhabited (BelowBy W1) := ⟨⟨W1, Below.refl _ _⟩⟩
      refine wp_region_quiet_below (by kernel_rfl) (by kernel_rfl) ?_
      repeat (quiet_step (first
        | (go_at_call 20; refine Calls.below_of (cV _))
        | (go_at_call 21; refine Calls.below_of (cW _))))
      refine wpQuiet_nil ?_
      intro w2 hw'
      obtain ⟨⟨_, hb2⟩, rfl⟩ := hw'
      have A2 := A1.below hb2; have r2 := r1.below hb2; have q2 := q1.below hb2; have B2 := Below.then B1 hb2
      clear pk1 pk2 pk3 pk4 cV cW A1 r1 q1 B1 c0 this
      go_upto_region 22 with fail

      obtain ⟨a9, c9, e9, _, _⟩ := own_row (D := qK) q2.book (by have := r2.full; omega)
      have E9 := hideP e9
      clear e9
      have pc1 := fun p : BelowBy w2 => cell_kept A2.c1 p; have pc2 := fun p : BelowBy w2 => cell_kept A2.c2 p; have pc3 := fun p : BelowBy w2 => cell_kept A2.c3 p
      have pq := fun p : BelowBy w2 => cell_kept (show w2.cell? ⟨qb, 2, none⟩ = some (.slice a9 (L).length c9) by rw [← E9.out]; exact q2.c2) p
      have cMade := fun p : BelowBy w2 => made6 p.w rb g cap bm seed N (L) x.who x.dom x.txt x.ta x.tc (r2.below p.h) (hx.t.below (Below.then B2 p.h)) hx.fits
      have cRM := fun p : BelowBy w2 => rmade6 p.w base qb na nc (v) seed N (L) x.who x.dom x.txt x.ta x.tc (q2.below p.h) (hx.t.below (Below.then B2 p.h)) (by have := r2.full; omega)
      have cLen := fun p : BelowBy w2 => len6 p.w rb g cap bm seed N (L) (r2.below p.h)
      have hLen : (((L).length : Int) != ((L).length : Int)) = false := by simp
      have R9' : Hid (∀ W', Below w2.heap.size w2 W' → RingAt W' rb g cap bm seed N (L) ∧ QAt W' base qb na nc (v) seed N (L)) := hideP fun W' hW => ⟨r2.below hW, q2.below hW⟩
      generalize hdd : decide ((x.who, x.dom, x.txt) ∈ (L)) = dd at *
      have hd1 : (dd != dd) = false := by cases dd <;> rfl
      clear hdd
      haveI : Inhabited (BelowBy w2) := ⟨⟨w2, Below.refl _ _⟩⟩
      clear r2 q2 A2 E9
      refine wp_region_quiet_below (by kernel_rfl) (by kernel_rfl) ?_
      repeat (quiet_step (first
        | (go_at_call 23; refine Calls.below_of (cMade _))
        | (go_at_call 24; refine Calls.below_of (cRM _))
        | (go_at_call 16; refine Calls.below_of_same (cLen _))))
      refine wpQuiet_nil ?_
      intro w9 hw'
      obtain ⟨⟨_, hb9⟩, rfl⟩ := hw'
      go_wp2_with fail
      exact ⟨⟨k + 1, L, v, rfl, hlt, (R9'.out w9 hb9).1, (R9'.out w9 hb9).2, Below.then B2 hb9⟩, by simp [intOf]; omega⟩
    by_cases hk2 : x.kind = 2
    · have kq0 : (x.kind == 0) = false := by simpa using hk0
      have kq1 : (x.kind == 1) = false := by simpa using hk1
      have kq : (x.kind == 2) = true := by simpa using hk2
      have c1 := A1.c1; have c2 := A1.c2; have c3 := A1.c3
      go_wp2_with fail
      refine (rtag6 W1 base qb na nc v seed N L x.who x.dom x.txt x.ta x.tc q1 (hx.t.below B1) hx.lw (by omega) (by omega)).mono ?_
      rintro _ w2 ⟨rfl, b2⟩
      have hV := vf_own seed N x.who x.dom x.txt
      have lD := Mm.tag_length (Mm.pkey seed x.who) x.dom x.txt
      generalize Mm.tag (Mm.pkey seed x.who) x.dom x.txt = D at *
      have HV := hideP hV
      clear hV
      have iD : Hid ((Tryd.prog.info? 42).map (·.size) = some (cs D).length) := hideP (by rw [cs_length, lD]; exact Tryd.infoDigest)
      have oD := cs_one D
      have zD : Hid (32 = (cs D).length) := hideP (by rw [cs_length, lD])
      have b3 := Below.then b2 (below_alloc w2 (.cells (cs D).toArray 42))
      have d3 := rangeAt_new w2 (cs D).toArray 42 (cs D) (by simp)
      have A3 := A1.below b3; have r3 := r1.below b3; have q3 := q1.below b3; have B3 := Below.then B1 b3
      clear c1 c2 c3 A1 r1 q1 B1 b2 b3 c0
      go_upto_region 21 with (refine wpList_store_new rfl 42 _ _ rfl w2.heap.size rfl (cs D) rfl rfl zD.out iD.out oD ?_)
      generalize w2.alloc (.cells (cs D).toArray 42) = w3 at A3 r3 q3 B3 d3 ⊢
      generalize w2.heap.size = G2 at *
      have pk1 := fun p : BelowBy w3 => cell_kept A3.c1 p; have pk2 := fun p : BelowBy w3 => cell_kept A3.c2 p; have pk3 := fun p : BelowBy w3 => cell_kept A3.c3 p
      have cV := fun p : BelowBy w3 => verify6 p.w rb g cap bm seed N L x.who x.dom x.txt D x.ta (some ⟨G2, 0, none⟩) 32 x.tc 32 (r3.below p.h) (hL.below (Below.then B3 p.h)) (hx.t.below (Below.then B3 p.h)) lD (by have e := holds_range (rangeAt_below d3 p.h); rwa [lD] at e) (by omega) (by omega)
      rw [HV.out] at cV
      have cI := fun p : BelowBy w3 => ris6 p.w base qb na nc v seed N L x.who (q3.below p.h)
      generalize decide (x.who ∈ N) = V at *
      have hV : (V == V) = true := by simp
      haveI : Inhabited (BelowBy w3) := ⟨⟨w3, Below.refl _ _⟩⟩
      refine wp_region_quiet_below (by kernel_rfl) (by kernel_rfl) ?_
      repeat (quiet_step (first
        | (go_at_call 20; refine Calls.below_of (cV _))
        | (go_at_call 15; refine Calls.below_of_same (cI _))))
      refine wpQuiet_nil ?_
      intro w4 hw'
      obtain ⟨⟨_, hb4⟩, rfl⟩ := hw'
      have A4 := A3.below hb4; have r4 := r3.below hb4; have q4 := q3.below hb4; have B4 := Below.then B3 hb4
      clear pk1 pk2 pk3 cV cI A3 r3 q3 B3 this d3 iD oD zD lD HV
      go_upto_region 22 with fail

      obtain ⟨a9, c9, e9, _, _⟩ := own_row (D := qK) q4.book (by have := r4.full; omega)
      have E9 := hideP e9
      clear e9
      have pc1 := fun p : BelowBy w4 => cell_kept A4.c1 p; have pc2 := fun p : BelowBy w4 => cell_kept A4.c2 p; have pc3 := fun p : BelowBy w4 => cell_kept A4.c3 p
      have pq := fun p : BelowBy w4 => cell_kept (show w4.cell? ⟨qb, 2, none⟩ = some (.slice a9 (L).length c9) by rw [← E9.out]; exact q4.c2) p
      have cMade := fun p : BelowBy w4 => made6 p.w rb g cap bm seed N (L) x.who x.dom x.txt x.ta x.tc (r4.below p.h) (hx.t.below (Below.then B4 p.h)) hx.fits
      have cRM := fun p : BelowBy w4 => rmade6 p.w base qb na nc (v) seed N (L) x.who x.dom x.txt x.ta x.tc (q4.below p.h) (hx.t.below (Below.then B4 p.h)) (by have := r4.full; omega)
      have cLen := fun p : BelowBy w4 => len6 p.w rb g cap bm seed N (L) (r4.below p.h)
      have hLen : (((L).length : Int) != ((L).length : Int)) = false := by simp
      have R9' : Hid (∀ W', Below w4.heap.size w4 W' → RingAt W' rb g cap bm seed N (L) ∧ QAt W' base qb na nc (v) seed N (L)) := hideP fun W' hW => ⟨r4.below hW, q4.below hW⟩
      generalize hdd : decide ((x.who, x.dom, x.txt) ∈ (L)) = dd at *
      have hd1 : (dd != dd) = false := by cases dd <;> rfl
      clear hdd
      haveI : Inhabited (BelowBy w4) := ⟨⟨w4, Below.refl _ _⟩⟩
      clear r4 q4 A4 E9
      refine wp_region_quiet_below (by kernel_rfl) (by kernel_rfl) ?_
      repeat (quiet_step (first
        | (go_at_call 23; refine Calls.below_of (cMade _))
        | (go_at_call 24; refine Calls.below_of (cRM _))
        | (go_at_call 16; refine Calls.below_of_same (cLen _))))
      refine wpQuiet_nil ?_
      intro w9 hw'
      obtain ⟨⟨_, hb9⟩, rfl⟩ := hw'
      go_wp2_with fail
      exact ⟨⟨k + 1, L, v, rfl, hlt, (R9'.out w9 hb9).1, (R9'.out w9 hb9).2, Below.then B4 hb9⟩, by simp [intOf]; omega⟩
    · have kq0 : (x.kind == 0) = false := by simpa using hk0
      have kq1 : (x.kind == 1) = false := by simpa using hk1
      have kq : (x.kind == 2) = false := by simpa using hk2
      go_upto_region 22 with fail
      clear c0

      obtain ⟨a9, c9, e9, _, _⟩ := own_row (D := qK) q1.book (by have := r1.full; omega)
      have E9 := hideP e9
      clear e9
      have pc1 := fun p : BelowBy W1 => cell_kept A1.c1 p; have pc2 := fun p : BelowBy W1 => cell_kept A1.c2 p; have pc3 := fun p : BelowBy W1 => cell_kept A1.c3 p
      have pq := fun p : BelowBy W1 => cell_kept (show W1.cell? ⟨qb, 2, none⟩ = some (.slice a9 (L).length c9) by rw [← E9.out]; exact q1.c2) p
      have cMade := fun p : BelowBy W1 => made6 p.w rb g cap bm seed N (L) x.who x.dom x.txt x.ta x.tc (r1.below p.h) (hx.t.below (Below.then B1 p.h)) hx.fits
      have cRM := fun p : BelowBy W1 => rmade6 p.w base qb na nc (v) seed N (L) x.who x.dom x.txt x.ta x.tc (q1.below p.h) (hx.t.below (Below.then B1 p.h)) (by have := r1.full; omega)
      have cLen := fun p : BelowBy W1 => len6 p.w rb g cap bm seed N (L) (r1.below p.h)
      have hLen : (((L).length : Int) != ((L).length : Int)) = false := by simp
      have R9' : Hid (∀ W', Below W1.heap.size W1 W' → RingAt W' rb g cap bm seed N (L) ∧ QAt W' base qb na nc (v) seed N (L)) := hideP fun W' hW => ⟨r1.below hW, q1.below hW⟩
      generalize hdd : decide ((x.who, x.dom, x.txt) ∈ (L)) = dd at *
      have hd1 : (dd != dd) = false := by cases dd <;> rfl
      clear hdd
      haveI : Inhabited (BelowBy W1) := ⟨⟨W1, Below.refl _ _⟩⟩
      clear r1 q1 A1 E9
      refine wp_region_quiet_below (by kernel_rfl) (by kernel_rfl) ?_
      repeat (quiet_step (first
        | (go_at_call 23; refine Calls.below_of (cMade _))
        | (go_at_call 24; refine Calls.below_of (cRM _))
        | (go_at_call 16; refine Calls.below_of_same (cLen _))))
      refine wpQuiet_nil ?_
      intro w9 hw'
      obtain ⟨⟨_, hb9⟩, rfl⟩ := hw'
      go_wp2_with fail
      exact ⟨⟨k + 1, L, v, rfl, hlt, (R9'.out w9 hb9).1, (R9'.out w9 hb9).2, Below.then B1 hb9⟩, by simp [intOf]; omega⟩
end Go.Proofs.YtfpdiafedoppnaaDoor
