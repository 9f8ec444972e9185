/-
  learn: variables become known.
-/
import Derived.Test.YtcncmpgababfjaaDoorQJc14
namespace Go.Proofs.YtcncmpgababfjaaDoor
open Go.RowKit Go.Lib Go.Shelf

def iK14 : Kd Nat := ⟨fun n => [.int .i64 (n : Int)], 1, fun _ => rfl, fun _ => rfl, by decide⟩
theorem nInts_flat (L : List Nat) : (nInts L).map (Value.int .i64) = L.flatMap iK14.enc := by
  induction L with
  | nil => rfl
  | cons x L ih =>
    rw [List.flatMap_cons, ← ih]; rfl
/-- what is told of a variable, as a slice -/
theorem told_slice {w0 : World} {base : Nat} {v : Value} {L : List Nat} (h : w0.ownsInts base 3 .i64 v (nInts L)) (hL : L.length ≤ 4398046510976) :
    ∃ a c, v = .slice a L.length c ∧ Row iK14 w0 a c L ∧ ∀ ad, a = some ad → base ≤ ad.block := by
  have h1 : w0.ownsRow base 3 iK14.k v L.length (L.flatMap iK14.enc) := by
    have := h.1
    rw [nInts_flat, nInts_len] at this
    exact this
  obtain ⟨a, c, e, R, hb⟩ := own_row (D := iK14) h1 hL
  exact ⟨a, c, e, R.row, hb⟩
theorem row_same {w0 w : World} {base : Nat} {a : Option Addr} {c : Nat} {L : List Nat} (h : Row iK14 w0 a c L) (hb : ∀ ad, a = some ad → base ≤ ad.block) (hs : ∀ k, base ≤ k → k < w0.heap.size → w.heap[k]? = w0.heap[k]?) : Row iK14 w a c L :=
  ⟨h.room, h.few, h.void, fun ad ha j u hu => by
    have hc := h.cells ad ha j u hu
    rw [World.cell?_of_block (w := w0) (hs _ (by rw [addr_add_block]; exact hb ad ha) (cell_block hc))]
    exact hc⟩
theorem bumps_le (K l : List Nat) (k : Nat) (h : k < K.length) (M : Nat) (hM : K[k] + l.length ≤ M) : (Pn.bumps K l)[k]'(by rw [Pn.bumps_len]; exact h) ≤ M := by
  rw [Pn.bumps_get _ _ _ h]
  have := List.count_le_length (a := k) (l := l)
  omega

/-- what a step leaves that writes into two blocks alone -/
structure Lk14 (kb bm : Nat) (w w' : World) : Prop where
  os : w'.os = w.os
  tape : w'.tape = w.tape
  output : w'.output = w.output
  size : w.heap.size ≤ w'.heap.size
  block : ∀ k, k < w.heap.size → k ≠ kb → k ≠ bm → w'.heap[k]? = w.heap[k]?
theorem Lk14.refl (kb bm : Nat) (w : World) : Lk14 kb bm w w := ⟨rfl, rfl, rfl, Nat.le_refl _, fun _ _ _ _ => rfl⟩
theorem Lk14.trans {kb bm : Nat} {a b c : World} (x : Lk14 kb bm a b) (y : Lk14 kb bm b c) : Lk14 kb bm a c := ⟨y.os.trans x.os, y.tape.trans x.tape, y.output.trans x.output, Nat.le_trans x.size y.size, fun k h1 h2 h3 => (y.block k (Nat.lt_of_lt_of_le h1 x.size) h2 h3).trans (x.block k h1 h2 h3)⟩
theorem Lk14.next {kb bm : Nat} {w w' : World} (h : Below w.heap.size w w') : Lk14 kb bm w w' := ⟨h.os, h.tape, h.output, h.size, fun k hk _ _ => h.block k hk⟩
theorem Lk14.one {kb bm : Nat} {w w' : World} (h : But kb w w') : Lk14 kb bm w w' := ⟨h.os, h.tape, h.output, h.size, fun k hk h1 _ => h.block k hk h1⟩
theorem Lk14.two {kb bm : Nat} {w w' : World} (h : But bm w w') : Lk14 kb bm w w' := ⟨h.os, h.tape, h.output, h.size, fun k hk _ h2 => h.block k hk h2⟩
theorem Lk14.drew (kb bm : Nat) (w : World) : Lk14 kb bm w w.drew := Lk14.next ((Below.refl _ _).drew)
theorem Lk14.kq {kb bm B : Nat} {w w' : World} {C : Array Value} {es : Array MapEntry} {clock : Nat} (h : Lk14 kb bm w w') (hk : w.heap[kb]? = some (.cells C 3)) (hm : w.heap[bm]? = some (.map es clock)) (h1 : B ≤ kb) (h2 : B ≤ bm) : Kq14 B w w' :=
  ⟨⟨h.os, h.tape, h.output, h.size, fun k hk' => h.block k (by have := heap_lt hk; omega) (by omega) (by omega)⟩, fun ty hn k cur hc => by
    rw [h.block k (heap_lt hc) (fun e => by subst e; rw [hk] at hc; injection hc with hc; injection hc with _ hc; exact hn hc.symm) (fun e => by subst e; rw [hm] at hc; cases hc)]
    exact hc⟩

set_option maxRecDepth 100000 in
set_option maxHeartbeats 2000000 in
theorem learn_at (r : Ru) (V : List (List UInt8)) (a : Option Addr) (c : Nat) (ts : List Tm) (B ob kb bm base n : Nat) (v0 v1 v2 : Value) (w0 w : World)
    (hr : ∀ W, Kq14 B w W → Row tK W a c ts) (H : w.heap[ob]? = some (.cells #[v0, v1, v2, .slice (some ⟨kb, 0, none⟩) n n, .map (some bm)] 48))
    (HK : w.heap[kb]? = some (.cells (nvs (Pn.kts r V)) 3)) (hn : n = r.body.length) (S : TellAt w0 w bm base (Pn.wts r V)) (hs : ∀ k, base ≤ k → k < w0.heap.size → w.heap[k]? = w0.heap[k]?)
    (h0 : w0.heap.size ≤ w.heap.size) (hkb : kb < base) (hbm : bm < base) (hBk : B ≤ kb) (hBm : B ≤ bm) (hv : ∀ t ∈ ts, t.v.length ≤ maxLen) (hT : Pn.tot r n ≤ 900000) :
    Calls Tryd.prog 21 #[ptr ob, .slice a ts.length c] w fun e w' => e = .returned (.tuple #[]) ∧ Lk14 kb bm w w' ∧ w'.heap[kb]? = some (.cells (nvs (Pn.kts r (V ++ ts.map (·.v)))) 3) ∧ TellAt w0 w' bm base (Pn.wts r (V ++ ts.map (·.v))) := by
  have few := (hr w (Kq14.refl _ _)).few
  have TT := Tryd.underlying25
  have HR := hideP hr
  clear hr
  have hkm : kb ≠ bm := fun e => by
    obtain ⟨es, cl, hm⟩ := S.map
    rw [← e, HK] at hm
    cases hm
  have hob : ob ≠ bm := fun e => by
    obtain ⟨es, cl, hm⟩ := S.map
    rw [← e, H] at hm
    cases hm
  obtain ⟨es0, clock0, hmw⟩ := S.map
  have hwB : B ≤ w.heap.size := Nat.le_trans hBk (Nat.le_of_lt (heap_lt HK))
  have HS := hideP hs
  clear hs
  go_enter Tryd.func21, Tryd.ntmps21
  go_wp2_with fail
  go_loopw [10] (fun v wr => ∃ j : Nat, v = .int .i64 (j : Int) ∧ j ≤ ts.length ∧ Lk14 kb bm w wr ∧ wr.heap[kb]? = some (.cells (nvs (Pn.kts r (V ++ (ts.take j).map (·.v)))) 3) ∧ TellAt w0 wr bm base (Pn.wts r (V ++ (ts.take j).map (·.v)))) (fun v _ => ts.length - (RowKit.intOf v).toNat)
  case atStart => exact ⟨0, rfl, Nat.zero_le _, Lk14.refl _ _ _, by simpa using HK, by simpa using S⟩
  case round =>
    obtain ⟨j, rfl, hj, LQ, HKj, Sj⟩ := hrel
    have Q : Kq14 B w wr := LQ.kq HK hmw hBk hBm
    have hsj := hideP (fun k (h1 : base ≤ k) (h2 : k < w0.heap.size) => (LQ.block k (Nat.lt_of_lt_of_le h2 h0) (by omega) (by omega)).trans (HS.out k h1 h2))
    by_cases hlt : j < ts.length
    · have hq : (j : Int) < (ts.length : Int) := by omega
      have Rj := HR.out wr Q
      obtain ⟨b, o, rfl⟩ := Rj.addr (by omega)
      have rg := Rj.range j hlt
      have Hj := Q.heap H (by decide)
      have hvj := hv ts[j] (List.getElem_mem hlt)
      have TK := hideP (show V ++ (ts.take (j + 1)).map (·.v) = (V ++ (ts.take j).map (·.v)) ++ [ts[j].v] by rw [List.take_succ_eq_append_getElem hlt, List.map_append, List.append_assoc]; rfl)
      generalize ts[j] = t at *
      generalize hU : V ++ (ts.take j).map (·.v) = U at *
      clear hU
      have H1 := heap_alloc_new wr (.cells #[.string { data := #[] }, .bool false, .int .i64 0, .string { data := #[] }] 25)
      have hBw : B ≤ wr.heap.size := Nat.le_trans hwB Q.bel.size
      go_wp2_with (first
        | (refine wpList_load_mid rfl 25 _ rfl b (o + j * 4) rfl (tv t) _ rg TT rfl Tryd.iT14 ?_)
        | (refine wpList_store_all rfl 25 _ _ rfl wr.heap.size 4 _ 25 (tv t) rfl rfl H1 rfl rfl Tryd.iT14 rfl ?_; intro w2 H2 b2; have B2 := below_tok b2; have e2 : w2.cell? ⟨wr.heap.size, 0, none⟩ = some (str t.v) := (by rw [heap_cell H2]; rfl); have Q2 := Kq14.next B2 hBw; have o2 := Q2.heap Hj (by decide); have d2 : w2.cell? ⟨ob, 4, none⟩ = some (.map (some bm)) := (by rw [heap_cell o2]; rfl)))
      have S2 : TellAt w0 w2.drew bm base (Pn.wts r U) := (Sj.next B2).keep rfl
      obtain ⟨v, L2, hown⟩ := S2.at t.v hvj
      obtain ⟨a1, c1, rfl, R1, hb1⟩ := told_slice hown (by have := Pn.wts_len r U t.v; rw [← hn] at this; omega)
      have few1 := R1.few
      have hL := hideP (fun k (h : k ∈ Pn.wts r U t.v) => Pn.wts_lt h)
      have hLl := Pn.wts_len r U t.v
      rw [← hn] at hLl
      have HT := hideP (fun k (h : k < (Pn.kts r U).length) => (show (Pn.kts r U)[k] ≤ 900000 by
        rw [Pn.kts_get]
        rw [Pn.kts_len] at h
        have := Pn.kns_le U (Pn.tk r k)
        have := Pn.tk_len r h
        rw [← hn] at this
        omega))
      have HB := hideP (Pn.kts_learn r U t.v)
      have HW := hideP (Pn.wts_snoc r U t.v)
      have HKl := Pn.kts_len r U
      rw [← hn] at HKl hL
      generalize hLL : Pn.wts r U t.v = L at *
      generalize hKK : Pn.kts r U = K at *
      clear hLL hKK
      go_region_held3 (fun W => W.cell? ⟨ob, 4, none⟩ = some (.map (some bm)) ∧ W.cell? ⟨wr.heap.size, 0, none⟩ = some (str t.v) ∧ (Instr.lookup 46 (.map (some bm)) (str t.v) false).run Tryd.prog W = .ok (.slice a1 L.length c1) W) (exact ⟨d2, e2, L2⟩) (fail)
      have K3 : w2.drew.heap[kb]? = some (.cells (nvs K) 3) := (show w2.heap[kb]? = _ from below_heap B2 HKj)
      have o3 : w2.drew.heap[ob]? = some (.cells #[v0, v1, v2, .slice (some ⟨kb, 0, none⟩) n n, .map (some bm)] 48) := o2
      have H3 : w2.drew.heap[wr.heap.size]? = some (.cells (tv t).toArray 25) := H2
      have s3 := hideP (fun k (h1 : base ≤ k) (h2 : k < w0.heap.size) => (show w2.drew.heap[k]? = w0.heap[k]? from (B2.block k (Nat.lt_of_lt_of_le h2 (Nat.le_trans h0 Q.bel.size))).trans (hsj.out k h1 h2)))
      have L3 : Lk14 kb bm w w2.drew := (LQ.trans (Lk14.next B2)).trans (Lk14.drew _ _ _)
      have Q3 : Kq14 B w w2.drew := Q.trans (Q2.trans ⟨(Below.refl _ _).drew, fun _ _ => Safe.refl _ _⟩)
      have n3 : wr.heap.size ≠ kb := Nat.ne_of_gt (heap_lt HKj)
      clear L2 hown H2 o2 B2 b2 e2 d2 Q2
      generalize w2.drew = w3 at *
      have hok : ob ≠ kb := fun e => by rw [e, K3] at o3; injection o3 with o3; injection o3 with _ o3; exact absurd o3 (by decide)
      generalize wr = wo at *
      go_wp2_with fail
      go_loopw [22] (fun v wr => ∃ k : Nat, v = .int .i64 (k : Int) ∧ k ≤ L.length ∧ But kb w3 wr ∧ wr.heap[kb]? = some (.cells (nvs (Pn.bumps K (L.take k))) 3)) (fun v _ => L.length - (RowKit.intOf v).toNat)
      case atStart => exact ⟨0, rfl, Nat.zero_le _, But.refl _ _, by rw [List.take_zero, Pn.bumps_nil]; exact K3⟩
      case round =>
        obtain ⟨k, rfl, hk, bI, KI⟩ := hrel
        have oI := bI.heap hok o3
        by_cases hkl : k < L.length
        · have hq2 : (k : Int) < (L.length : Int) := by omega
          have RI := row_same (w := wr) R1 hb1 (fun k' h1 h2 => (bI.block k' (by have := Q3.bel.size; omega) (by omega)).trans (s3.out k' h1 h2))
          obtain ⟨g1, o1, rfl⟩ := RI.addr (by omega)
          have cE : wr.cell? ⟨g1, o1 + k, none⟩ = some (.int .i64 (L[k] : Int)) := by
            have := RI.range k hkl 0 _ rfl
            rw [show iK14.k = 1 from rfl, Nat.mul_one, Nat.add_zero] at this
            exact this
          have xlt := hL.out _ (List.getElem_mem hkl)
          have TL : L.take (k + 1) = L.take k ++ [L[k]] := List.take_succ_eq_append_getElem hkl
          generalize L[k] = x at *
          have TLh := hideP TL
          clear TL
          have hxK : x < K.length := by omega
          have hxB : x < (Pn.bumps K (L.take k)).length := by rw [Pn.bumps_len]; exact hxK
          have cX : wr.cell? ⟨kb, x, none⟩ = some (.int .i64 ((Pn.bumps K (L.take k))[x] : Int)) := by rw [heap_cell KI, nvs_get _ _ hxB]
          have zX : wr.frozen? ⟨kb, x, none⟩ = false := heap_frozen KI _
          have dX : wr.cell? ⟨ob, 3, none⟩ = some (.slice (some ⟨kb, 0, none⟩) n n) := by rw [heap_cell oI]; rfl
          have leX := bumps_le K (L.take k) x hxK 2000000 (by have := HT.out x hxK; rw [List.length_take]; omega)
          have BS := hideP (Pn.bumps_snoc K (L.take k) x hxK)
          generalize hy : (Pn.bumps K (L.take k))[x] = y at *
          have qx : (x : Int) < (n : Int) := by omega
          go_wp2_with fail
          go_roundw
          case rel => exact ⟨k + 1, rfl, hkl, bI.trans ((But.refl kb wr).set x _), by rw [TLh.out, BS.out]; exact nvs_bump KI x (y + 1) _ (by congr 1)⟩
          case measure => simp [RowKit.intOf]; omega
        · have hq2 : ¬ (k : Int) < (L.length : Int) := by omega
          obtain rfl : k = L.length := by omega
          rw [List.take_length, HB.out] at KI
          have SI := S2.but bI hkm
          have HI := bI.heap n3 H3
          have SD : TellAt w0 wr.drew bm base (Pn.wts r U) := SI.keep rfl
          obtain ⟨w5, hdel, S5, b5⟩ := SD.drop t.v hvj 0
          have oD : wr.drew.heap[ob]? = _ := oI
          have HD : wr.drew.heap[wo.heap.size]? = _ := HI
          have KD : wr.drew.heap[kb]? = _ := KI
          obtain ⟨es, clock, hmI⟩ := SI.map
          have n4 : wo.heap.size ≠ bm := fun e => by rw [e, hmI] at HI; cases HI
          have dI : wr.cell? ⟨ob, 4, none⟩ = some (.map (some bm)) := by rw [heap_cell oI]; rfl
          have eI : wr.cell? ⟨wo.heap.size, 0, none⟩ = some (str t.v) := by rw [heap_cell HI]; rfl
          have d5 : w5.cell? ⟨ob, 4, none⟩ = some (.map (some bm)) := by rw [heap_cell (b5.heap hob oD)]; rfl
          have e5 : w5.cell? ⟨wo.heap.size, 0, none⟩ = some (str t.v) := by rw [heap_cell (b5.heap n4 HD)]; rfl
          go_wp2_with fail
          go_region_held_law (fun W => W.cell? ⟨ob, 4, none⟩ = some (.map (some bm)) ∧ W.cell? ⟨wo.heap.size, 0, none⟩ = some (str t.v)) (first | exact ⟨dI, eI⟩ | exact ⟨d5, e5⟩) (fail)
          go_wp2_with fail
          go_roundw
          case rel =>
            refine ⟨j + 1, rfl, hlt, ((L3.trans (Lk14.one bI)).trans (Lk14.drew _ _ _)).trans (Lk14.two b5), ?_, ?_⟩
            · rw [TK.out]
              exact b5.heap hkm KD
            · rw [TK.out, HW.out]
              exact S5
          case measure => simp [RowKit.intOf]; omega
    · have hq : ¬ (j : Int) < (ts.length : Int) := by omega
      obtain rfl : j = ts.length := by omega
      rw [List.take_length] at HKj Sj
      go_wp2_with fail
      go_end0
      exact ⟨rfl, LQ, HKj, Sj⟩
end Go.Proofs.YtcncmpgababfjaaDoor
