/-
  The reference's Least.
-/
import Derived.ProofKit
import Derived.SizedLaws
import Derived.Deep.Slices
import Derived.Lib.SmallJoins
import Derived.Test.YtdehimbfcilhpaaGreatDoorQRSorted
import Derived.Test.YtdehimbfcilhpaaGreatDoorQLe12
import Derived.Test.YtdehimbfcilhpaaGreatDoorQNa
import Derived.Test.YtdehimbfcilhpaaGreatDoorQLg12
import Derived.Test.YtdehimbfcilhpaaGreatDoorQWf12
import Derived.Test.YtdehimbfcilhpaaGreatDoorQOw
import Derived.Test.YtdehimbfcilhpaaGreatDoorQOn12
import Derived.Test.YtdehimbfcilhpaaGreatDoorQPb
import Derived.Test.YtdehimbfcilhpaaGreatDoorQBs
namespace Go.Proofs.YtdehimbfcilhpaaGreatDoor
open Go.RowKit Go.Lib Go.Shelf

/-- what is known of rules, homes and names -/
structure RIn0 (w0 : World) (ra : Option Addr) (rc : Nat) (rs : List Rv) (ha : Option Addr) (hc : Nat) (hs : List (List UInt8)) (na : Option Addr) (nc : Nat) (ns : List (List UInt8)) : Prop where
  rules : Rws w0 ra rc rs
  smr : ∀ r ∈ rs, SmR r
  homes : Row sK w0 ha hc hs
  names : Row sK w0 na nc ns
  most : rs.length * hs.length ≤ 1000000
/-- facts whose constants lie below, or are of their type -/
def EQ (w0 w : World) (ys : List Fv) : Prop := ∀ z ∈ ys, Fv.At w0 z ∨ RowT kK 56 w z.a z.cap z.ks
theorem EQ.at_ {w0 w : World} {ys : List Fv} (h : EQ w0 w ys) (hb : Below w0.heap.size w0 w) : ∀ z ∈ ys, Fv.At w z := fun z hz => by
  rcases h z hz with h | h
  · exact h.below hb (Nat.le_refl _)
  · exact row_args h.row
theorem EQ.safe {w0 w w' : World} {ys : List Fv} (h : EQ w0 w ys) (s : Safe 56 w w') : EQ w0 w' ys := fun z hz => (h z hz).imp id fun h => h.safe s
/-- what Least tells -/
structure LsAns (w0 w : World) (q : Nat) (ha : Option Addr) (hc : Nat) (hs : List (List UInt8)) (na : Option Addr) (nc : Nat) (ns : List (List UInt8)) (l : List Ru) (b : List F) (c : Ml.Cn) (en : Ending) (w' : World) : Prop where
  ans : ∃ a m us o c2, en = .returned (.tuple #[.slice a (List.length us) m, .int .i64 (errOf o)]) ∧ Lies w' a m us ∧ EQ w0 w' us ∧ us.map Fv.f = o.getD [] ∧ Wq w' q ha hc hs na nc ns c2 ∧ Ml.LstR ⟨hs, ns⟩ l b c o c2
  but : But q w w'

set_option maxRecDepth 100000 in
set_option maxHeartbeats 4000000 in
theorem rleast_at (w0 : World) (q : Nat) (ra : Option Addr) (rc : Nat) (rs : List Rv) (ha : Option Addr) (hc : Nat) (hs : List (List UInt8)) (na : Option Addr) (nc : Nat) (ns : List (List UInt8)) (fa : Option Addr) (fc : Nat) (zs : List Fv) (c : Ml.Cn) (w : World) (hi : RIn0 w0 ra rc rs ha hc hs na nc ns) (hf : Lies w0 fa fc zs) (hz : ∀ z ∈ zs, Fv.At w0 z) (hb : Below w0.heap.size w0 w) (hq0 : w0.heap.size ≤ q) (hq : Wq w q ha hc hs na nc ns c) (hc0 : c.Ok) :
    Calls Tryz.prog 18 #[ptr q, .slice ra rs.length rc, .slice fa zs.length fc] w (LsAns w0 w q ha hc hs na nc ns (rs.map Rv.r) (sortF (zs.map Fv.f)) c) := by
  have hqb : q < w.heap.size := heap_lt hq
  have T1 := hideP (refsorted_at fa fc zs w (hf.below hb (Nat.le_refl _)) (fun z h => (hz z h).below hb (Nat.le_refl _)))
  have HI := hideP hi
  have HZ := hideP hz
  have HC := hideP hc0
  clear hi hf hz hc0
  go_enter Tryz.func18, Tryz.ntmps18
  go_wp2_with fail
  refine T1.out.mono ?_
  rintro e w1 ⟨a1, c1, us1, rfl, OF1, in1, hs1, B1⟩
  have EQ1 : EQ w0 w1 us1 := fun z h => .inl (HZ.out z (in1 z h))
  have ST1 : Hid (∀ o c2, Ml.LstR ⟨hs, ns⟩ (rs.map Rv.r) (us1.map Fv.f) c o c2 → Ml.LstR ⟨hs, ns⟩ (rs.map Rv.r) (sortF (zs.map Fv.f)) c o c2) := fun o c2 h => by rw [hs1] at h; exact h
  have SS1 : Hid (SS (us1.map Fv.f)) := by show SS _; rw [hs1]; exact sortF_SS _
  have WQ1 := hq.next B1
  clear T1 in1 hs1 HZ hq
  go_wp2_with fail
  go_loopw [8] (fun v8 wr => ∃ (ys : List Fv) (a : Option Addr) (cp : Nat) (cc : Ml.Cn), v8 = .slice a (List.length ys) cp ∧ OwF wr w.heap.size a cp ys ∧ EQ w0 wr ys ∧ Wq wr q ha hc hs na nc ns cc ∧ Hid (cc.Ok) ∧ Hid (SS (ys.map Fv.f)) ∧ Hid (∀ o c2, Ml.LstR ⟨hs, ns⟩ (rs.map Rv.r) (ys.map Fv.f) cc o c2 → Ml.LstR ⟨hs, ns⟩ (rs.map Rv.r) (sortF (zs.map Fv.f)) c o c2) ∧ But q w wr) (fun v8 _ => match v8 with
    | .slice _ n _ => 401 - n
    | _ => 0)
  case atStart => exact ⟨us1, a1, c1, c, rfl, OF1, EQ1, WQ1, HC, SS1, ST1, But.of_below B1⟩
  case round =>
    obtain ⟨ys, a, cp, cc, rfl, OF, EY, WQ, CO, HS, ST, BT⟩ := hrel
    clear OF1 EQ1 WQ1 B1 SS1 ST1
    have d3 : wr.cell? ⟨q, 3, none⟩ = some (.bool cc.heavy) := by rw [heap_cell WQ]; rfl
    have few := OF.few
    cases hv : cc.heavy with
    | true =>
      rw [hv] at d3
      have R := hideP (ST.out _ _ (.heavy hv))
      clear hv
      go_wp2_with fail
      go_ret2
      exact ⟨⟨none, 0, [], some [], cc, rfl, Lies.nil _, (fun _ h => by cases h), rfl, WQ, R.out⟩, BT⟩
    | false =>
      rw [hv] at d3
      have HV := hideP hv
      clear hv
      by_cases h4 : ys.length ≤ 400
      rotate_left
      · have q4 : (400 : Int) < (List.length ys : Int) := by omega
        have R := hideP (ST.out _ _ (.full HV.out (by rw [List.length_map]; omega)))
        go_wp2_with fail
        go_ret2
        exact ⟨⟨none, 0, [], none, cc, rfl, Lies.nil _, (fun _ h => by cases h), rfl, WQ, R.out⟩, BT⟩
      · have q4 : ¬ (400 : Int) < (List.length ys : Int) := by omega
        have A2 := below_alloc wr (.cells #[] 36)
        have O2 := ownsF_empty wr
        have L2 := OF.lies.below A2 (Nat.le_refl _)
        have S2 : wr.heap.size ≤ (wr.alloc (.cells #[] 36)).heap.size := A2.size
        go_wp2_with (at_builtin; refine wpList_append_fs _ rfl _ _ rfl wr.heap.size (.slice (some ⟨wr.heap.size, 0, none⟩) 0 0) [] ys a cp rfl O2 rfl L2 S2 (by simpa using few) ?_; intro v2 w2 o2 g2; have B2 : Below wr.heap.size wr w2 := A2.trans ((Below.refl _ _).grown g2 S2 (fun k hk => (by cases hk; exact Nat.le_refl _))); obtain ⟨a2, c2, rfl, OF2⟩ := own_facts (xs := ys) (by simpa using o2) few)
        have BT2 : But q w w2 := BT.below B2
        have WQ2 := WQ.next B2
        have OFm := OF.below B2
        have EY2 := EY.safe (Safe.below B2 : Safe 56 _ _)
        have BW2 : Below w0.heap.size w0 w2 := hb.trans (BT2.lower hq0 hb.size)
        have TO := hideP (ronce_at w0 q ra rc rs ha hc hs na nc ns a cp ys cc w2 ⟨HI.out.rules, HI.out.smr, HI.out.homes, HI.out.names, fun W h => ⟨liesRow (OFm.butQ h hqb).lies, (EY2.safe (h.safe WQ2 (by decide))).at_ (BW2.trans (h.lower hq0 BW2.size))⟩, by omega, HI.out.most⟩ BW2 hq0 WQ2 CO.out)
        refine TO.out.mono ?_
        rintro e3 w3 ⟨⟨a3, m3, us, c3, rfl, OF3, EK3, WQ3, R3, L3⟩, BT3⟩
        have OFm3 := OFm.butQ BT3 hqb
        have EY3 := EY2.safe (BT3.safe WQ2 (by decide))
        have OU3 := (OF2.lower BT.size).butQ BT3 hqb
        have BT03 := BT2.trans BT3
        have BW3 : Below w0.heap.size w0 w3 := hb.trans (BT03.lower hq0 hb.size)
        have C3 : Hid (c3.Ok) := by
          show c3.Ok
          have h := Ml.onceR_ok (w := ⟨hs, ns⟩) (l := rs.map Rv.r) (m := ys.map Fv.f) CO.out
          rw [R3] at h; exact h
        have HR := hideP R3
        clear TO R3 OF EY WQ A2 O2 L2 S2 o2 g2 B2 OF2 OFm EY2 BW2 WQ2 BT3 BT2 d3 CO
        go_wp2_with fail
        go_loopw [9, 11] (fun v9 v11 wi => ∃ (i : Nat) (ot : List Fv) (a9 : Option Addr) (c9 : Nat), v9 = .slice a9 (List.length ot) c9 ∧ v11 = .int .i64 (i : Int) ∧ i ≤ us.length ∧ OwF wi w.heap.size a9 c9 ot ∧ EQ w0 wi ot ∧ ot.length ≤ ys.length + i ∧ Hid (ot.map Fv.f = ((us.map Fv.f).take i).foldl ins (ys.map Fv.f)) ∧ Below w3.heap.size w3 wi) (fun _ v11 _ => us.length - (intOf v11).toNat)
        case atStart => exact ⟨0, ys, a2, c2, rfl, rfl, Nat.zero_le _, OU3, EY3, by omega, rfl, Below.refl _ _⟩
        case round =>
          obtain ⟨i, ot, a9, c9, rfl, rfl, hiu, OF9, EQ9, LN9, FO9, B9⟩ := hrel
          have BW9 : Below w0.heap.size w0 wr := BW3.trans (B9.mono BW3.size)
          by_cases hlt : i < us.length
          · have q5 : (i : Int) < (us.length : Int) := by omega
            obtain ⟨P3, O3, rfl⟩ := OF3.lies.addr (by omega)
            obtain ⟨k1, k2, k3, k4⟩ := (OF3.lies.below B9 (Nat.le_refl _)).get i hlt
            have RZ := (EK3 _ (List.getElem_mem hlt)).safe (Safe.below B9)
            have FT : Hid (((us.map Fv.f).take (i + 1)).foldl ins (ys.map Fv.f) = ins (((us.map Fv.f).take i).foldl ins (ys.map Fv.f)) (us[i]'hlt).f) := by
              show _ = _
              rw [List.take_succ_eq_append_getElem (by simpa using hlt), List.foldl_append]; simp
            generalize (us[i]'hlt) = z at *
            have TW := hideP (with_at a9 c9 ot z wr w.heap.size OF9 (EQ9.at_ BW9) (row_args RZ.row) (by omega) (Nat.le_trans BT03.size B9.size))
            go_wp2_with fail
            refine TW.out.mono ?_
            rintro e5 w5 ⟨a5, c5, ut, rfl, OF5, in5, f5, l5, B5⟩
            have EQ5 : EQ w0 w5 ut := fun y hy => by
              rcases in5 y hy with h | rfl
              · exact (EQ9.safe (Safe.below B5)) y h
              · exact .inr (RZ.safe (Safe.below B5))
            have FF : Hid (ut.map Fv.f = ((us.map Fv.f).take (i + 1)).foldl ins (ys.map Fv.f)) := by show _ = _; rw [f5, FT.out, FO9.out]
            clear TW f5 in5 k1 k2 k3 k4
            go_wp2_with fail
            exact ⟨⟨i + 1, ut, a5, c5, rfl, by go_num, by omega, OF5, EQ5, by omega, FF, Below.then B9 B5⟩, by simp [intOf]; omega⟩
          · have q5 : ¬ (i : Int) < (us.length : Int) := by omega
            have FA : ot.map Fv.f = (us.map Fv.f).foldl ins (ys.map Fv.f) := by
              rw [FO9.out, show i = (us.map Fv.f).length by rw [List.length_map]; omega, List.take_length]
            have HLn : ot.length = ((Ml.onceR ⟨hs, ns⟩ (rs.map Rv.r) (ys.map Fv.f) cc).2.foldl ins (ys.map Fv.f)).length := by rw [HR.out, ← FA, List.length_map]
            have BT9 := BT03.below B9
            have WQ9 := WQ3.next B9
            have OFm9 := OFm3.below B9
            have EY9 := EY3.safe (Safe.below B9 : Safe 56 _ _)
            have hlm : (ys.map Fv.f).length = ys.length := List.length_map ..
            clear FO9
            by_cases hl : ot.length = ys.length
            · have q6 : ((List.length ot : Int) == (List.length ys : Int)) = true := by rw [beq_iff_eq]; omega
              have R := ST.out _ _ (.done HV.out (by rw [hlm]; exact h4) (by rw [← HLn, hlm]; exact hl))
              rw [HR.out] at R
              have HRR := hideP R
              clear R FA HLn hl hlm
              go_wp2_with fail
              go_ret2
              exact ⟨⟨a, cp, ys, some (ys.map Fv.f), c3, rfl, OFm9.lies, EY9, rfl, WQ9, HRR.out⟩, BT9⟩
            · have q6 : ((List.length ot : Int) == (List.length ys : Int)) = false := by rw [beq_eq_false_iff_ne]; omega
              have SN : Hid (SS (ot.map Fv.f)) := by show SS _; rw [FA]; exact (foldl_ins _ _ HS.out).1
              have gr : ys.length < ot.length := by
                have h := Ml.fold_more HS.out (s := us.map Fv.f) (by rw [← FA, List.length_map, List.length_map]; exact hl)
                rw [← FA, List.length_map, List.length_map] at h; exact h
              have ST9 : Hid (∀ o c2, Ml.LstR ⟨hs, ns⟩ (rs.map Rv.r) (ot.map Fv.f) c3 o c2 → Ml.LstR ⟨hs, ns⟩ (rs.map Rv.r) (sortF (zs.map Fv.f)) c o c2) := fun o c2 h => ST.out o c2 (.more HV.out (by rw [hlm]; exact h4) (by rw [← HLn, hlm]; exact hl) (by rw [HR.out, ← FA]; exact h))
              clear FA HLn hl hlm
              go_wp2_with fail
              exact ⟨⟨ot, a9, c9, c3, rfl, OF9, EQ9, WQ9, C3, SN, ST9, BT9⟩, by simp; omega⟩
end Go.Proofs.YtdehimbfcilhpaaGreatDoor

/-
  The mathematics of layer 10: how many variables a rule has at most. No program in this text.
-/
namespace Go.Proofs.YtdehimbfcilhpaaGreatDoor
namespace Ck
/-- a rule whose variables lie within reach, of which there are few -/
structure Vok (r : Ru) : Prop where
  home : r.home.v.length ≤ maxLen
  body : ∀ y ∈ r.body, y.by_.v.length ≤ maxLen ∧ (∀ t ∈ y.args, t.v.length ≤ maxLen) ∧ y.at_.v.length ≤ maxLen
  few : r.body.length ≤ 300
  each : ∀ y ∈ r.body, y.args.length ≤ 300
theorem wv_len (L : List Tx) (t : Tm) : (wv L t).length ≤ L.length + 1 := by
  unfold wv; split
  · omega
  · simp
theorem fold_len : ∀ (ts : List Tm) (L : List Tx), (ts.foldl wv L).length ≤ L.length + ts.length
  | [], L => by simp
  | t :: r, L => by
    have h1 := wv_len L t
    have h2 := fold_len r (wv L t)
    rw [List.foldl_cons, List.length_cons]; omega
theorem wl_len (L : List Tx) (y : Lt) : (wl L y).length ≤ L.length + y.args.length + 2 := by
  unfold wl
  have h1 := wv_len L y.by_
  have h2 := fold_len y.args (wv L y.by_)
  have h3 := wv_len (y.args.foldl wv (wv L y.by_)) y.at_
  omega
theorem bnd_len {r : Ru} (h : Vok r) : ∀ k : Nat, (bnd r k).length ≤ 1 + 302 * k
  | 0 => by
    have := wv_len [] r.home
    simp only [bnd, List.take_zero, List.foldl_nil, List.length_nil] at this ⊢; omega
  | k + 1 => by
    have ih := bnd_len h k
    by_cases hk : k < r.body.length
    · rw [bnd_succ hk]
      have h1 := wl_len (bnd r k) r.body[k]
      have h2 := h.each _ (List.getElem_mem hk)
      omega
    · rw [bnd_all (by omega), ← bnd_all (k := k) (by omega)]; omega
theorem bnd_min (r : Ru) (k : Nat) : bnd r (min k r.body.length) = bnd r k := by
  rcases Nat.le_total k r.body.length with h | h
  · rw [Nat.min_eq_left h]
  · rw [Nat.min_eq_right h, bnd_all h, bnd_all (Nat.le_refl _)]
theorem bnd_all_len {r : Ru} (h : Vok r) (k : Nat) : (bnd r k).length ≤ 100000 := by
  rw [← bnd_min]
  have h1 := bnd_len h (min k r.body.length)
  have h2 := h.few
  have : min k r.body.length ≤ 300 := Nat.le_trans (Nat.min_le_right ..) h2
  omega
end Ck
end Go.Proofs.YtdehimbfcilhpaaGreatDoor

/-
  How terms, rules, facts, bindings and derivations that came in are opened; their texts lie within reach.
-/
namespace Go.Proofs.YtdehimbfcilhpaaGreatDoor
open Go.ChangeShapes Go.WideShapes Go.ChangeAt Go.RowKit

namespace Sh
def KIn (t : Tm) : Prop := -9223372036854775808 ≤ t.k.n ∧ t.k.n ≤ 9223372036854775807
def LIn (l : Lt) : Prop := KIn l.by_ ∧ (∀ t ∈ l.args, KIn t) ∧ KIn l.at_
def RIn (r : Ru) : Prop := KIn r.home ∧ (∀ t ∈ r.args, KIn t) ∧ KIn r.to_ ∧ ∀ l ∈ r.body, LIn l
end Sh
def Fits (k : K) : Prop := (-9223372036854775808 ≤ k.n ∧ k.n ≤ 9223372036854775807) ∧ k.s.length ≤ 140737488351232
theorem Tryz.cellsB : Tryz.prog.cellsOf 4 = 1 := by kernel_rfl
theorem Tryz.cellsI : Tryz.prog.cellsOf 3 = 1 := by kernel_rfl
theorem Tryz.cellsS : Tryz.prog.cellsOf 9 = 1 := by kernel_rfl
theorem Tryz.cellsK : Tryz.prog.cellsOf 56 = 3 := by kernel_rfl
theorem flat_place {α β : Type} (f : α → List β) (k : Nat) (hk : ∀ x, (f x).length = k) (l : List α) (j : Nat) (u : β) (h : (l.flatMap f)[j]? = some u) : ∃ i c, ∃ hi : i < l.length, c < k ∧ j = i * k + c ∧ (f l[i])[c]? = some u := by
  have hj := (List.getElem?_eq_some_iff.1 h).1
  rw [flat_len f k hk] at hj
  have hk0 : 0 < k := by rcases Nat.eq_zero_or_pos k with rfl | h0; · simp at hj
                         · exact h0
  have hd := Nat.div_add_mod' j k
  have hi : j / k < l.length := Nat.div_lt_of_lt_mul (by rw [Nat.mul_comm]; exact hj)
  refine ⟨j / k, j % k, hi, Nat.mod_lt _ hk0, by omega, ?_⟩
  rw [← flat_get f k hk l (j / k) (j % k) hi (Nat.mod_lt _ hk0), hd, h]
theorem weightsAll_mem {H : Type} {P : Program} {e : TypeId} : ∀ {l : List (DataW H)} {d : DataW H}, d ∈ l → ∀ n ∈ d.weights P e, n ∈ DataW.weightsAll P e l
  | x :: r, d, hd, n, hn => by
    rw [DataW.weightsAll, List.mem_append]
    rcases List.mem_cons.1 hd with rfl | h
    · exact .inl hn
    · exact .inr (weightsAll_mem h n hn)
theorem three3 {l : List Value} (h : l.length = 3) : ∃ a b c, l = [a, b, c] := by
  match l, h with
  | [a, b, c], _ => exact ⟨a, b, c, rfl⟩
theorem four4 {l : List Value} (h : l.length = 4) : ∃ a b c d, l = [a, b, c, d] := by
  match l, h with
  | [a, b, c, d], _ => exact ⟨a, b, c, d, rfl⟩
theorem str_of (s : ByteArray) : ∃ l : List UInt8, Value.string s = str l := by
  obtain ⟨⟨l⟩⟩ := s; exact ⟨l, rfl⟩

/-- a slice of records that came in -/
theorem cells_row {α : Type} (D : Kd α) (sl el : TypeId) (bytes : Nat) {H : Type} {enc : TypeId × Value → H} {W : World} (hu : Tryz.prog.underlying sl = some (.slice el)) (hc : Tryz.prog.cellsOf el = D.k) (hb : Tryz.prog.bytesOf el = bytes) (hby : 32 ≤ bytes) (Q : α → Prop)
    (he : ∀ {fuel : Nat} {cs : List Value} {x : DataW H × List MemPlace}, DataW.trod enc Tryz.prog W 0 (fun _ => true) true fuel el cs = some x → (∀ n ∈ x.1.weights Tryz.prog el, n ≤ reachBytes) → ∃ v, cs = D.enc v ∧ Q v)
    {fuel : Nat} {cs : List Value} {x : DataW H × List MemPlace} (h : DataW.trod enc Tryz.prog W 0 (fun _ => true) true fuel sl cs = some x) (hw : ∀ n ∈ x.1.weights Tryz.prog sl, n ≤ reachBytes) :
    ∃ a c xs, cs = [.slice a (List.length xs) c] ∧ Row D W a c xs ∧ c ≤ maxLen ∧ xs.length * bytes ≤ reachBytes ∧ ∀ v ∈ xs, Q v := by
  rcases Deep.open_slice hu h with ⟨rfl, _⟩ | ⟨ad, len, cap, m, n, Dd, Pl, rfl, _, hl, hm, hmm, rfl, hcl⟩
  · exact ⟨none, 0, [], rfl, Row.nil D W, by simp, by simp, fun _ h => by simp at h⟩
  · simp only [if_true] at hmm
    replace hmm := hmm.symm
    subst hmm
    rw [hc] at hcl
    have hbig : cap * bytes ≤ reachBytes := hw _ (by
      rw [DataW.weights]
      simp only [hu, hb, List.length_map, List.length_range]
      rw [show len + (cap - len) = cap by omega]
      exact List.mem_cons_self ..)
    by_cases h0 : len = 0
    · subst h0
      exact ⟨some ad, cap, [], rfl, ⟨by simp, by simp, (fun h => by cases h), fun ad' ha j u hu => by simp at hu⟩, hm, by simp, fun _ h => by simp at h⟩
    have hk : ∀ i, i < len → ∃ k : α, W.cells? 0 (ad.add (i * D.k)) D.k = some (D.enc k) ∧ Q k := fun i hi => by
      obtain ⟨cs', h1, h2⟩ := hcl i (by omega)
      obtain ⟨k, rfl, hq⟩ := he h2 (fun n hn => hw n (by
        rw [DataW.weights]
        simp only [hu]
        exact List.mem_cons_of_mem _ (List.mem_append_left _ (weightsAll_mem (d := Dd i) (List.mem_map.2 ⟨i, List.mem_range.2 hi, rfl⟩) n hn))))
      exact ⟨k, h1, hq⟩
    obtain ⟨dk, _⟩ := hk 0 (by omega)
    have hk' : ∀ i, ∃ k : α, i < len → W.cells? 0 (ad.add (i * D.k)) D.k = some (D.enc k) ∧ Q k := fun i => by
      by_cases hi : i < len
      · obtain ⟨k, h⟩ := hk i hi
        exact ⟨k, fun _ => h⟩
      · exact ⟨dk, fun h => absurd h hi⟩
    obtain ⟨kf, hkf⟩ : ∃ kf : Nat → α, ∀ i, i < len → W.cells? 0 (ad.add (i * D.k)) D.k = some (D.enc (kf i)) ∧ Q (kf i) := ⟨fun i => Classical.choose (hk' i), fun i => Classical.choose_spec (hk' i)⟩
    have hlen : ((List.range len).map kf).length = len := by simp
    have hle : len * bytes ≤ reachBytes := Nat.le_trans (Nat.mul_le_mul_right _ hl) hbig
    refine ⟨some ad, cap, (List.range len).map kf, by rw [hlen], ⟨by rw [hlen]; exact hl, ?_, (fun h => by cases h), fun ad' ha j u hu => ?_⟩, hm, by rw [hlen]; exact hle, fun v hv => ?_⟩
    · rw [hlen]
      have : len * 32 ≤ len * bytes := Nat.mul_le_mul_left _ hby
      unfold reachBytes at hle; omega
    · cases ha
      obtain ⟨i, c, hi, hc3, rfl, hv⟩ := flat_place D.enc D.k D.len _ j u hu
      rw [hlen] at hi
      have h1 := (World.cells?_some (hkf i hi).1).2.2 c hc3
      rw [Deep.add_add] at h1
      rw [h1]
      simpa using hv
    · obtain ⟨i, hi, rfl⟩ := List.mem_map.1 hv
      exact (hkf i (List.mem_range.1 hi)).2

theorem cells_const {H : Type} {enc : TypeId × Value → H} {W : World} {fuel : Nat} {cs : List Value} {x : DataW H × List MemPlace} (h : DataW.trod enc Tryz.prog W 0 (fun _ => true) true fuel 56 cs = some x) (hw : ∀ n ∈ x.1.weights Tryz.prog 56, n ≤ reachBytes) : ∃ k : K, cs = kv k ∧ Fits k := by
  obtain ⟨y0, y1, y2, n, hx, hl, h0, h1, h2⟩ := Deep.trod_struct3 Tryz.underlying56 h
  rw [hx] at hw
  rw [Tryz.cellsK] at hl
  obtain ⟨c0, c1, c2, rfl⟩ := three3 hl
  simp only [Tryz.cellsB, Tryz.cellsI, Tryz.cellsS, List.drop_zero, List.drop_succ_cons, List.take_succ_cons, List.take_zero] at h0 h1 h2
  obtain ⟨b, e0, _⟩ := DataW.trod_bool Tryz.underlying4 h0
  obtain ⟨i, e1, _, hwf⟩ := DataW.trod_int Tryz.underlying3 h1
  obtain ⟨s, e2, e2', _⟩ := DataW.trod_string Tryz.underlying9 h2
  subst e2'
  obtain ⟨⟨l⟩⟩ := s
  have hs : l.length ≤ reachBytes := hw _ (by
    rw [DataW.weights]
    simp only [Tryz.underlying56, List.map_cons, List.map_nil, DataW.weightsEach, List.mem_append]
    refine .inr (.inr (.inl ?_))
    rw [DataW.weights]; exact List.mem_singleton.2 rfl)
  simp only [List.cons.injEq, and_true] at e0 e1 e2
  exact ⟨⟨b, i, l⟩, by rw [e0, e1, e2]; rfl, bounds_i64 hwf, hs⟩
/-- what is within reach, of one argument -/
theorem within {H : Type} {ts : List TypeId} {ds : List (DataW H)} (hsz : (DataW.weightsEach Tryz.prog ts ds).all (· ≤ reachBytes) = true) {j : Nat} {t : TypeId} {d : DataW H} (ht : ts[j]? = some t) (hd : ds[j]? = some d) : ∀ n ∈ d.weights Tryz.prog t, n ≤ reachBytes := fun n hn => by
  simpa using List.all_eq_true.1 hsz n (DataW.weights_mem_each ht hd n hn)

theorem Tryz.cellsT : Tryz.prog.cellsOf 58 = 4 := by kernel_rfl
theorem Tryz.cellsTs : Tryz.prog.cellsOf 59 = 1 := by kernel_rfl
theorem Tryz.cellsL : Tryz.prog.cellsOf 85 = 10 := by kernel_rfl
theorem Tryz.cellsLs : Tryz.prog.cellsOf 60 = 1 := by kernel_rfl
theorem Tryz.cellsR : Tryz.prog.cellsOf 62 = 11 := by kernel_rfl
theorem Tryz.bytesT : Tryz.prog.bytesOf 58 = 48 := by kernel_rfl
theorem Tryz.bytesL : Tryz.prog.bytesOf 85 = 136 := by kernel_rfl
theorem Tryz.bytesR : Tryz.prog.bytesOf 62 = 160 := by kernel_rfl

theorem ten {l : List Value} (h : l.length = 10) : ∃ a0 a1 a2 a3 a4 a5 a6 a7 a8 a9, l = [a0, a1, a2, a3, a4, a5, a6, a7, a8, a9] := by
  match l, h with
  | [a0, a1, a2, a3, a4, a5, a6, a7, a8, a9], _ => exact ⟨a0, a1, a2, a3, a4, a5, a6, a7, a8, a9, rfl⟩
theorem eleven {l : List Value} (h : l.length = 11) : ∃ a0 a1 a2 a3 a4 a5 a6 a7 a8 a9 b0, l = [a0, a1, a2, a3, a4, a5, a6, a7, a8, a9, b0] := by
  match l, h with
  | [a0, a1, a2, a3, a4, a5, a6, a7, a8, a9, b0], _ => exact ⟨a0, a1, a2, a3, a4, a5, a6, a7, a8, a9, b0, rfl⟩
theorem trod_struct5 {H : Type} {enc : TypeId × Value → H} {P : Program} {w : World} {base : Nat} {spare : Nat → Bool} {held : Bool} {t : TypeId} {f0 f1 f2 f3 f4 : Field} {fuel : Nat} {cs : List Value} {x : DataW H × List MemPlace} (ht : P.underlying t = some (.struct #[f0, f1, f2, f3, f4])) (h : DataW.trod enc P w base spare held fuel t cs = some x) :
    ∃ y0 y1 y2 y3 y4 n, x.1 = .agg [y0.1, y1.1, y2.1, y3.1, y4.1] ∧ cs.length = P.cellsOf t ∧ DataW.trod enc P w base spare held n f0.type ((cs.drop f0.offset).take (P.cellsOf f0.type)) = some y0 ∧
      DataW.trod enc P w base spare held n f1.type ((cs.drop f1.offset).take (P.cellsOf f1.type)) = some y1 ∧ DataW.trod enc P w base spare held n f2.type ((cs.drop f2.offset).take (P.cellsOf f2.type)) = some y2 ∧
      DataW.trod enc P w base spare held n f3.type ((cs.drop f3.offset).take (P.cellsOf f3.type)) = some y3 ∧ DataW.trod enc P w base spare held n f4.type ((cs.drop f4.offset).take (P.cellsOf f4.type)) = some y4 := by
  obtain ⟨xs, n, _, rfl, hl, hlen, hf⟩ := DataW.trod_struct ht h
  match xs, hlen with
  | [y0, y1, y2, y3, y4], _ => exact ⟨y0, y1, y2, y3, y4, n, by simp, hl, by simpa using hf 0 f0 rfl, by simpa using hf 1 f1 rfl, by simpa using hf 2 f2 rfl, by simpa using hf 3 f3 rfl, by simpa using hf 4 f4 rfl⟩

/-- a term within reach -/
structure Reach9 (t : Tm) : Prop where
  k : Sh.KIn t
  v : t.v.length ≤ 140737488351232
  s : t.k.s.length ≤ 140737488351232
theorem cells_term {H : Type} {enc : TypeId × Value → H} {W : World} {fuel : Nat} {cs : List Value} {x : DataW H × List MemPlace} (h : DataW.trod enc Tryz.prog W 0 (fun _ => true) true fuel 58 cs = some x) (hw : ∀ n ∈ x.1.weights Tryz.prog 58, n ≤ reachBytes) : ∃ t : Tm, cs = tv t ∧ Reach9 t := by
  obtain ⟨y0, y1, n, hx, hl, h0, h1⟩ := trod_struct2 Tryz.underlying58 h
  rw [hx] at hw
  rw [Tryz.cellsT] at hl
  obtain ⟨c0, c1, c2, c3, rfl⟩ := four4 hl
  simp only [Tryz.cellsK, Tryz.cellsS, List.drop_zero, List.drop_succ_cons, List.take_succ_cons, List.take_zero] at h0 h1
  obtain ⟨s, e0, e0', _⟩ := DataW.trod_string Tryz.underlying9 h0
  subst e0'
  obtain ⟨⟨l⟩⟩ := s
  have hs : l.length ≤ reachBytes := hw _ (by
    rw [DataW.weights]
    simp only [Tryz.underlying58, List.map_cons, List.map_nil, DataW.weightsEach, List.mem_append]
    refine .inl ?_
    rw [DataW.weights]; exact List.mem_singleton.2 rfl)
  obtain ⟨k, e1, hk⟩ := cells_const h1 (fun n hn => hw n (by
    rw [DataW.weights]
    simp only [Tryz.underlying58, List.map_cons, List.map_nil, DataW.weightsEach, List.mem_append]
    exact .inr (.inl hn)))
  simp only [List.cons.injEq, and_true, kv] at e0 e1
  exact ⟨⟨l, k⟩, by rw [e0, e1.1, e1.2.1, e1.2.2]; rfl, hk.1, hs, hk.2⟩
theorem cells_terms {H : Type} {enc : TypeId × Value → H} {W : World} {fuel : Nat} {cs : List Value} {x : DataW H × List MemPlace} (h : DataW.trod enc Tryz.prog W 0 (fun _ => true) true fuel 59 cs = some x) (hw : ∀ n ∈ x.1.weights Tryz.prog 59, n ≤ reachBytes) :
    ∃ a c xs, cs = [.slice a (List.length xs) c] ∧ Row tK W a c xs ∧ ∀ t ∈ xs, Reach9 t := by
  obtain ⟨a, c, xs, h1, h2, _, _, h3⟩ := cells_row tK 59 58 48 Tryz.underlying59 Tryz.cellsT Tryz.bytesT (by omega) Reach9 (fun h hw => cells_term h hw) h hw
  exact ⟨a, c, xs, h1, h2, h3⟩
/-- the variables of a literal, of a rule lie within reach -/
structure TxL (y : Lt) : Prop where
  by_ : y.by_.v.length ≤ 140737488351232
  args : ∀ t ∈ y.args, t.v.length ≤ 140737488351232
  at_ : y.at_.v.length ≤ 140737488351232
structure TxV (r : Ru) : Prop where
  home : r.home.v.length ≤ 140737488351232
  body : ∀ y ∈ r.body, TxL y
theorem vok_of {x : Rv} (h : TxV x.r) (f : FewR x) : Ck.Vok x.r := by
  have hm : (140737488351232 : Nat) ≤ maxLen := by decide
  refine ⟨Nat.le_trans h.home hm, fun y hy => ⟨Nat.le_trans (h.body y hy).by_ hm, fun t ht => Nat.le_trans ((h.body y hy).args t ht) hm, Nat.le_trans (h.body y hy).at_ hm⟩, ?_, fun y hy => ?_⟩
  · show (x.body.map Lv.l).length ≤ 300
    rw [List.length_map]; exact f.b
  · obtain ⟨z, hz, rfl⟩ := List.mem_map.1 hy
    exact f.c z hz
theorem cells_lit2 {H : Type} {enc : TypeId × Value → H} {W : World} {fuel : Nat} {cs : List Value} {x : DataW H × List MemPlace} (h : DataW.trod enc Tryz.prog W 0 (fun _ => true) true fuel 85 cs = some x) (hw : ∀ n ∈ x.1.weights Tryz.prog 85, n ≤ reachBytes) : ∃ v : Lv, cs = lv v ∧ (Lv.Aw W v ∧ Sh.LIn v.l ∧ v.pred.length ≤ 140737488351232 ∧ TxL v.l) := by
  obtain ⟨y0, y1, y2, y3, n, rfl, hl, h0, h1, h2, h3⟩ := Joins.trod_struct4 Tryz.underlying85 h
  rw [Tryz.cellsL] at hl
  obtain ⟨a0, a1, a2, a3, a4, a5, a6, a7, a8, a9, rfl⟩ := ten hl
  simp only [Tryz.cellsT, Tryz.cellsTs, Tryz.cellsS, List.drop_zero, List.drop_succ_cons, List.take_succ_cons, List.take_zero] at h0 h1 h2 h3
  obtain ⟨t0, e0, k0⟩ := cells_term h0 (fun n hn => hw n (by
    rw [DataW.weights]
    simp only [Tryz.underlying85, List.map_cons, List.map_nil, DataW.weightsEach, List.mem_append]
    exact .inl hn))
  obtain ⟨s1, e1, f1', _⟩ := DataW.trod_string Tryz.underlying9 h1
  subst f1'
  obtain ⟨⟨l1⟩⟩ := s1
  have g1 : l1.length ≤ reachBytes := hw _ (by
    rw [DataW.weights]
    simp only [Tryz.underlying85, List.map_cons, List.map_nil, DataW.weightsEach, List.mem_append]
    refine .inr (.inl ?_)
    rw [DataW.weights]; exact List.mem_singleton.2 rfl)
  obtain ⟨a, c, ts, e2, hA, k2⟩ := cells_terms h2 (fun n hn => hw n (by
    rw [DataW.weights]
    simp only [Tryz.underlying85, List.map_cons, List.map_nil, DataW.weightsEach, List.mem_append]
    exact .inr (.inr (.inl hn))))
  obtain ⟨t3, e3, k3⟩ := cells_term h3 (fun n hn => hw n (by
    rw [DataW.weights]
    simp only [Tryz.underlying85, List.map_cons, List.map_nil, DataW.weightsEach, List.mem_append]
    exact .inr (.inr (.inr (.inl hn)))))
  simp only [List.cons.injEq, and_true, tv] at e0 e1 e2 e3
  exact ⟨⟨t0, l1, a, c, ts, t3⟩, by rw [e0.1, e0.2.1, e0.2.2.1, e0.2.2.2, e1, e2, e3.1, e3.2.1, e3.2.2.1, e3.2.2.2]; rfl, hA, ⟨k0.k, fun t ht => (k2 t ht).k, k3.k⟩, g1, ⟨k0.v, fun t ht => (k2 t ht).v, k3.v⟩⟩
theorem cells_rule2 {H : Type} {enc : TypeId × Value → H} {W : World} {fuel : Nat} {cs : List Value} {x : DataW H × List MemPlace} (h : DataW.trod enc Tryz.prog W 0 (fun _ => true) true fuel 62 cs = some x) (hw : ∀ n ∈ x.1.weights Tryz.prog 62, n ≤ reachBytes) : ∃ v : Rv, cs = rv v ∧ (Rv.Aw W v ∧ Sh.RIn v.r ∧ TxR v ∧ TxV v.r) := by
  obtain ⟨y0, y1, y2, y3, y4, n, hx, hl, h0, h1, h2, h3, h4⟩ := trod_struct5 Tryz.underlying62 h
  rw [hx] at hw
  rw [Tryz.cellsR] at hl
  obtain ⟨a0, a1, a2, a3, a4, a5, a6, a7, a8, a9, a10, rfl⟩ := eleven hl
  simp only [Tryz.cellsT, Tryz.cellsTs, Tryz.cellsLs, Tryz.cellsS, List.drop_zero, List.drop_succ_cons, List.take_succ_cons, List.take_zero] at h0 h1 h2 h3 h4
  obtain ⟨t0, e0, k0⟩ := cells_term h0 (fun n hn => hw n (by
    rw [DataW.weights]
    simp only [Tryz.underlying62, List.map_cons, List.map_nil, DataW.weightsEach, List.mem_append]
    exact .inl hn))
  obtain ⟨s1, e1, f1', _⟩ := DataW.trod_string Tryz.underlying9 h1
  subst f1'
  obtain ⟨⟨l1⟩⟩ := s1
  have g1 : l1.length ≤ reachBytes := hw _ (by
    rw [DataW.weights]
    simp only [Tryz.underlying62, List.map_cons, List.map_nil, DataW.weightsEach, List.mem_append]
    refine .inr (.inl ?_)
    rw [DataW.weights]; exact List.mem_singleton.2 rfl)
  obtain ⟨a, c, ts, e2, hA, k2⟩ := cells_terms h2 (fun n hn => hw n (by
    rw [DataW.weights]
    simp only [Tryz.underlying62, List.map_cons, List.map_nil, DataW.weightsEach, List.mem_append]
    exact .inr (.inr (.inl hn))))
  obtain ⟨t3, e3, k3⟩ := cells_term h3 (fun n hn => hw n (by
    rw [DataW.weights]
    simp only [Tryz.underlying62, List.map_cons, List.map_nil, DataW.weightsEach, List.mem_append]
    exact .inr (.inr (.inr (.inl hn)))))
  obtain ⟨a', c', ls, e4, hL, _, _, k4⟩ := cells_row lK 60 85 136 Tryz.underlying60 Tryz.cellsL Tryz.bytesL (by omega) (fun v : Lv => Lv.Aw W v ∧ Sh.LIn v.l ∧ v.pred.length ≤ 140737488351232 ∧ TxL v.l) (fun h hw => cells_lit2 h hw) h4 (fun n hn => hw n (by
    rw [DataW.weights]
    simp only [Tryz.underlying62, List.map_cons, List.map_nil, DataW.weightsEach, List.mem_append]
    exact .inr (.inr (.inr (.inr (.inl hn))))))
  simp only [List.cons.injEq, and_true, tv] at e0 e1 e2 e3 e4
  refine ⟨⟨t0, l1, a, c, ts, t3, a', c', ls⟩, by rw [e0.1, e0.2.1, e0.2.2.1, e0.2.2.2, e1, e2, e3.1, e3.2.1, e3.2.2.1, e3.2.2.2, e4]; rfl, ⟨hA, hL, fun l hl => (k4 l hl).1⟩, ⟨k0.k, fun t ht => (k2 t ht).k, k3.k, fun l hl => ?_⟩, ⟨g1, fun l hl => (k4 l hl).2.2.1⟩, ⟨k0.v, fun l hl => ?_⟩⟩
  · obtain ⟨v, hv, rfl⟩ := List.mem_map.1 hl
    exact (k4 v hv).2.1
  · obtain ⟨v, hv, rfl⟩ := List.mem_map.1 hl
    exact (k4 v hv).2.2.2
set_option maxRecDepth 100000 in
theorem open_rules2 {H : Type} {enc : TypeId × Value → H} {W : World} {base : Nat} {v : Value} {d : DataW H} {p : List MemPlace} (hw : ∀ n ∈ d.weights Tryz.prog 23, n ≤ reachBytes) (hv : Value.okWide Tryz.prog W .any base 23 v) (ht : DataW.Trod enc Tryz.prog W 0 (fun _ => true) true 23 v d p) :
    ∃ a c xs, v = .slice a (List.length xs) c ∧ Row rK W a c xs ∧ (∀ x ∈ xs, Rv.Aw W x) ∧ ∀ x ∈ xs, Sh.RIn x.r ∧ TxR x ∧ TxV x.r := by
  obtain ⟨a, len, cap, rfl⟩ := okWide_slice Tryz.underlying23 hv
  obtain ⟨fuel, hf⟩ := ht
  obtain ⟨a', c', xs, h1, h2, _, _, h3⟩ := cells_row rK 23 62 160 Tryz.underlying23 Tryz.cellsR Tryz.bytesR (by omega) (fun v : Rv => Rv.Aw W v ∧ Sh.RIn v.r ∧ TxR v ∧ TxV v.r) (fun h hw => cells_rule2 h hw) hf hw
  simp only [Value.cells, List.cons.injEq, and_true] at h1
  exact ⟨a', c', xs, h1, h2, fun x hx => (h3 x hx).1, fun x hx => (h3 x hx).2⟩
/-- a term, a rule, by value -/
theorem two2 {α : Type} {l : List α} (h : l.length = 2) : ∃ a b, l = [a, b] := by
  match l, h with
  | [a, b], _ => exact ⟨a, b, rfl⟩
set_option maxRecDepth 100000 in
theorem open_term {H : Type} {enc : TypeId × Value → H} {W : World} {base : Nat} {v : Value} {d : DataW H} {p : List MemPlace} (hw : ∀ n ∈ d.weights Tryz.prog 58, n ≤ reachBytes) (hv : Value.okWide Tryz.prog W .any base 58 v) (ht : DataW.Trod enc Tryz.prog W 0 (fun _ => true) true 58 v d p) : ∃ x : Tm, v = tval x ∧ Reach9 x := by
  obtain ⟨cs, rfl, _⟩ := okWide_struct Tryz.underlying58 hv
  obtain ⟨fuel, hf⟩ := ht
  obtain ⟨x, hx, hA⟩ := cells_term hf hw
  refine ⟨x, ?_, hA⟩
  rw [Value.cells] at hx
  rw [show cs = (tv x).toArray by rw [← hx]]
  rfl
set_option maxRecDepth 100000 in
theorem open_rule {H : Type} {enc : TypeId × Value → H} {W : World} {base : Nat} {v : Value} {d : DataW H} {p : List MemPlace} (hw : ∀ n ∈ d.weights Tryz.prog 62, n ≤ reachBytes) (hv : Value.okWide Tryz.prog W .any base 62 v) (ht : DataW.Trod enc Tryz.prog W 0 (fun _ => true) true 62 v d p) : ∃ x : Rv, v = rval x ∧ Rv.Aw W x ∧ (Sh.RIn x.r ∧ TxR x ∧ TxV x.r) := by
  obtain ⟨cs, rfl, _⟩ := okWide_struct Tryz.underlying62 hv
  obtain ⟨fuel, hf⟩ := ht
  obtain ⟨x, hx, hA, hB⟩ := cells_rule2 hf hw
  refine ⟨x, ?_, hA, hB⟩
  rw [Value.cells] at hx
  rw [show cs = (rv x).toArray by rw [← hx]]
  rfl
/-! facts, bindings, derivations -/
theorem Tryz.cellsA : Tryz.prog.cellsOf 34 = 1 := by kernel_rfl
theorem Tryz.cellsFs : Tryz.prog.cellsOf 24 = 1 := by kernel_rfl
theorem Tryz.cellsF : Tryz.prog.cellsOf 36 = 4 := by kernel_rfl
theorem Tryz.cellsBd : Tryz.prog.cellsOf 99 = 4 := by kernel_rfl
theorem Tryz.bytesK : Tryz.prog.bytesOf 56 = 32 := by kernel_rfl
theorem Tryz.bytesF : Tryz.prog.bytesOf 36 = 72 := by kernel_rfl
theorem Tryz.bytesBd : Tryz.prog.bytesOf 99 = 48 := by kernel_rfl
theorem cells_fact2 {H : Type} {enc : TypeId × Value → H} {W : World} {fuel : Nat} {cs : List Value} {x : DataW H × List MemPlace} (h : DataW.trod enc Tryz.prog W 0 (fun _ => true) true fuel 36 cs = some x) (hw : ∀ n ∈ x.1.weights Tryz.prog 36, n ≤ reachBytes) : ∃ f : Fv, cs = fv f ∧ (Fv.At W f ∧ TxF f) := by
  obtain ⟨y0, y1, y2, y3, n, rfl, hl, h0, h1, h2, h3⟩ := Joins.trod_struct4 Tryz.underlying36 h
  rw [Tryz.cellsF] at hl
  obtain ⟨c0, c1, c2, c3, rfl⟩ := four4 hl
  simp only [Tryz.cellsA, Tryz.cellsS, List.drop_zero, List.drop_succ_cons, List.take_succ_cons, List.take_zero] at h0 h1 h2 h3
  obtain ⟨s0, e0, f0', _⟩ := DataW.trod_string Tryz.underlying9 h0
  obtain ⟨s1, e1, f1', _⟩ := DataW.trod_string Tryz.underlying9 h1
  obtain ⟨s2, e2, f2', _⟩ := DataW.trod_string Tryz.underlying9 h2
  subst f0' f1' f2'
  obtain ⟨⟨l0⟩⟩ := s0; obtain ⟨⟨l1⟩⟩ := s1; obtain ⟨⟨l2⟩⟩ := s2
  have g0 : l0.length ≤ reachBytes := hw _ (by
    rw [DataW.weights]
    simp only [Tryz.underlying36, List.map_cons, List.map_nil, DataW.weightsEach, List.mem_append]
    refine .inl ?_
    rw [DataW.weights]; exact List.mem_singleton.2 rfl)
  have g1 : l1.length ≤ reachBytes := hw _ (by
    rw [DataW.weights]
    simp only [Tryz.underlying36, List.map_cons, List.map_nil, DataW.weightsEach, List.mem_append]
    refine .inr (.inl ?_)
    rw [DataW.weights]; exact List.mem_singleton.2 rfl)
  have g2 : l2.length ≤ reachBytes := hw _ (by
    rw [DataW.weights]
    simp only [Tryz.underlying36, List.map_cons, List.map_nil, DataW.weightsEach, List.mem_append]
    refine .inr (.inr (.inl ?_))
    rw [DataW.weights]; exact List.mem_singleton.2 rfl)
  obtain ⟨a, c, ks, e3, hA, _, _, hk⟩ := cells_row kK 34 56 32 Tryz.underlying34 Tryz.cellsK Tryz.bytesK (Nat.le_refl _) Fits (fun h hw => cells_const h hw) h3 (fun n hn => hw n (by
    rw [DataW.weights]
    simp only [Tryz.underlying36, List.map_cons, List.map_nil, DataW.weightsEach, List.mem_append]
    exact .inr (.inr (.inr (.inl hn)))))
  simp only [List.cons.injEq, and_true] at e0 e1 e2 e3
  exact ⟨⟨l0, l1, l2, a, c, ks⟩, by rw [e0, e1, e2, e3]; rfl, ⟨hA.room, hA.few, hA.void, hA.cells⟩, ⟨g0, g1, g2, fun k h => (hk k h).2⟩⟩


theorem cells_facts {H : Type} {enc : TypeId × Value → H} {W : World} {fuel : Nat} {cs : List Value} {x : DataW H × List MemPlace} (h : DataW.trod enc Tryz.prog W 0 (fun _ => true) true fuel 24 cs = some x) (hw : ∀ n ∈ x.1.weights Tryz.prog 24, n ≤ reachBytes) :
    ∃ a c xs, cs = [.slice a (List.length xs) c] ∧ Lies W a c xs ∧ ∀ x ∈ xs, Fv.At W x ∧ TxF x := by
  obtain ⟨a', c', xs, h1, h2, h3, h4, h5⟩ := cells_row fK 24 36 72 Tryz.underlying24 Tryz.cellsF Tryz.bytesF (by omega) (fun v : Fv => Fv.At W v ∧ TxF v) (fun h hw => cells_fact2 h hw) h hw
  exact ⟨a', c', xs, h1, ⟨h2.room, h3, by unfold reachBytes at h4; omega, h2.void, h2.cells⟩, h5⟩
theorem cells_bind {H : Type} {enc : TypeId × Value → H} {W : World} {fuel : Nat} {cs : List Value} {x : DataW H × List MemPlace} (h : DataW.trod enc Tryz.prog W 0 (fun _ => true) true fuel 99 cs = some x) (hw : ∀ n ∈ x.1.weights Tryz.prog 99, n ≤ reachBytes) : ∃ b : List UInt8 × K, cs = bv b ∧ True := by
  obtain ⟨y0, y1, n, hx, hl, h0, h1⟩ := trod_struct2 Tryz.underlying99 h
  rw [hx] at hw
  rw [Tryz.cellsBd] at hl
  obtain ⟨c0, c1, c2, c3, rfl⟩ := four4 hl
  simp only [Tryz.cellsK, Tryz.cellsS, List.drop_zero, List.drop_succ_cons, List.take_succ_cons, List.take_zero] at h0 h1
  obtain ⟨s, e0, e0', _⟩ := DataW.trod_string Tryz.underlying9 h0
  obtain ⟨⟨l⟩⟩ := s
  obtain ⟨k, e1, hk⟩ := cells_const h1 (fun n hn => hw n (by
    rw [DataW.weights]
    simp only [Tryz.underlying99, List.map_cons, List.map_nil, DataW.weightsEach, List.mem_append]
    exact .inr (.inl hn)))
  simp only [List.cons.injEq, and_true, kv] at e0 e1
  exact ⟨(l, k), by rw [e0, e1.1, e1.2.1, e1.2.2]; rfl, trivial⟩
set_option maxRecDepth 100000 in
theorem open_binds {H : Type} {enc : TypeId × Value → H} {W : World} {base : Nat} {v : Value} {d : DataW H} {p : List MemPlace} (hw : ∀ n ∈ d.weights Tryz.prog 65, n ≤ reachBytes) (hv : Value.okWide Tryz.prog W .any base 65 v) (ht : DataW.Trod enc Tryz.prog W 0 (fun _ => true) true 65 v d p) :
    ∃ a c xs, v = .slice a (List.length xs) c ∧ Row bK W a c xs := by
  obtain ⟨a, len, cap, rfl⟩ := okWide_slice Tryz.underlying65 hv
  obtain ⟨fuel, hf⟩ := ht
  obtain ⟨a', c', xs, h1, h2, _, _, _⟩ := cells_row bK 65 99 48 Tryz.underlying65 Tryz.cellsBd Tryz.bytesBd (by omega) (fun _ => True) (fun h hw => cells_bind h hw) hf hw
  simp only [Value.cells, List.cons.injEq, and_true] at h1
  exact ⟨a', c', xs, h1, h2⟩
set_option maxRecDepth 100000 in
theorem open_const {H : Type} {enc : TypeId × Value → H} {W : World} {base : Nat} {v : Value} {d : DataW H} {p : List MemPlace} (hw : ∀ n ∈ d.weights Tryz.prog 56, n ≤ reachBytes) (hv : Value.okWide Tryz.prog W .any base 56 v) (ht : DataW.Trod enc Tryz.prog W 0 (fun _ => true) true 56 v d p) : ∃ k : K, v = kval k := by
  obtain ⟨cs, rfl, _⟩ := okWide_struct Tryz.underlying56 hv
  obtain ⟨fuel, hf⟩ := ht
  obtain ⟨k, hk, _⟩ := cells_const hf hw
  refine ⟨k, ?_⟩
  rw [Value.cells] at hk
  rw [kval, show cs = (kv k).toArray by rw [← hk]]
  rfl
set_option maxRecDepth 100000 in
theorem open_fact {H : Type} {enc : TypeId × Value → H} {W : World} {base : Nat} {v : Value} {d : DataW H} {p : List MemPlace} (hw : ∀ n ∈ d.weights Tryz.prog 36, n ≤ reachBytes) (hv : Value.okWide Tryz.prog W .any base 36 v) (ht : DataW.Trod enc Tryz.prog W 0 (fun _ => true) true 36 v d p) : ∃ x : Fv, v = x.val ∧ Fv.At W x ∧ TxF x := by
  obtain ⟨cs, rfl, _⟩ := okWide_struct Tryz.underlying36 hv
  obtain ⟨fuel, hf⟩ := ht
  obtain ⟨x, hx, hA⟩ := cells_fact2 hf hw
  refine ⟨x, ?_, hA⟩
  rw [Value.cells] at hx
  rw [Fv.val, show cs = (fv x).toArray by rw [← hx]]
  rfl
/-- a derivation's number, its head, its body -/
abbrev dval (n : Int) (x : Fv) (a : Option Addr) (c : Nat) (xs : List Fv) : Value := .agg #[.int .i64 n, str x.at_, str x.by_, str x.pred, .slice x.a x.ks.length x.cap, .slice a xs.length c]
theorem six6 {l : List Value} (h : l.length = 6) : ∃ a0 a1 a2 a3 a4 a5, l = [a0, a1, a2, a3, a4, a5] := by
  match l, h with
  | [a0, a1, a2, a3, a4, a5], _ => exact ⟨a0, a1, a2, a3, a4, a5, rfl⟩
end Go.Proofs.YtdehimbfcilhpaaGreatDoor

/-
  How the data of a call are opened: a slice of bytes that came in holds some bytes; its length is within the form's own reach.
-/
namespace Go.Proofs.YtdehimbfcilhpaaGreatDoor
open Go.ChangeShapes Go.WideShapes Go.ChangeAt Go.RowKit

theorem Tryz.cellsU8 : Tryz.prog.cellsOf 5 = 1 := by kernel_rfl
theorem Tryz.bytesU8 : Tryz.prog.bytesOf 5 = 1 := by kernel_rfl

/-- what is known of the datum of a slice of bytes -/
def SliceDatum {H : Type} (d : DataW H) (c : Nat) (l : List UInt8) : Prop := (d = .nil ∧ l = []) ∨ ∃ e s, d = .slice e s ∧ e.length + s.length = c

set_option maxRecDepth 100000 in
theorem open_bytes {H : Type} {enc : TypeId × Value → H} {W : World} {base : Nat} {v : Value} {d : DataW H} {p : List MemPlace} (hv : Value.okWide Tryz.prog W .any base 215 v)
    (ht : DataW.Trod enc Tryz.prog W 0 (fun _ => true) true 215 v d p) : ∃ a c l, v = .slice a l.length c ∧ Holds W a c l ∧ SliceDatum d c l := by
  obtain ⟨a, len, cap, rfl⟩ := okWide_slice Tryz.underlying215 hv
  obtain ⟨fuel, hf⟩ := ht
  rcases open_ints Tryz.underlying215 Tryz.underlying5 Tryz.cellsU8 hf with ⟨hcs, hx⟩ | ⟨x, len', cap', zs, hcs, _, hl, hm, hz, hx, hcell, hwz⟩
  · simp [Value.cells] at hcs
    obtain ⟨rfl, rfl, rfl⟩ := hcs
    simp at hx
    exact ⟨none, 0, [], rfl, Holds.nil W, .inl ⟨hx.1, rfl⟩⟩
  · simp [Value.cells] at hcs
    obtain ⟨rfl, rfl, rfl⟩ := hcs
    simp only [if_true] at hz
    simp only [Prod.mk.injEq] at hx
    have hzl : ((zs.take len).map fun n => UInt8.ofNat n.toNat).length = len := by simp; omega
    refine ⟨some x, cap, (zs.take len).map fun n => UInt8.ofNat n.toNat, by rw [hzl], ⟨by rw [hzl]; exact hl, fun h => (by cases h), fun ad had j u hu => ?_⟩, .inr ⟨_, _, hx.1, by simp [lits]; omega⟩⟩
    cases had
    have hj : j < len := by
      have := (List.getElem?_eq_some_iff.1 hu).1
      rwa [cs_length, hzl] at this
    rw [hcell j (by omega)]
    have hw := hwz zs[j] (List.getElem_mem _)
    have hb := bounds_u8 hw
    have e1 : zs.getD j 0 = zs[j] := by simp [show j < zs.length by omega]
    rw [e1]
    rw [cs_get _ j (by rw [hzl]; exact hj)] at hu
    rw [← hu]
    congr 2
    simp
    omega

set_option maxRecDepth 100000 in
theorem reach_bytes {H : Type} {ts : List TypeId} {ds : List (DataW H)} (hsz : (DataW.weightsEach Tryz.prog ts ds).all (· ≤ reachBytes) = true) {j c : Nat} {l : List UInt8} {d : DataW H} {W : World} {a : Option Addr}
    (ht : ts[j]? = some 215) (hd : ds[j]? = some d) (h : SliceDatum d c l) (hl : Holds W a c l) : l.length ≤ 140737488351232 := by
  rcases h with ⟨_, rfl⟩ | ⟨e, s, rfl, hc⟩
  · simp
  · have := sized_slice hsz ht hd Tryz.underlying215
    rw [Tryz.bytesU8, hc] at this
    simp only [reachBytes] at this
    have := hl.1
    omega
end Go.Proofs.YtdehimbfcilhpaaGreatDoor

/-
  What the second form's bound gives: the lengths of a slice of bytes and of a text that came in.
-/
namespace Go.Proofs.YtdehimbfcilhpaaGreatDoor
open Go.RowKit

theorem bulk_one {H : Type} (d : DataW H) : 1 ≤ Rows.uptoBulk d := by
  cases d with
  | lit l => cases l <;> simp [Rows.uptoBulk]
  | _ => simp [Rows.uptoBulk]

theorem bulk_count {H : Type} (l : List (DataW H)) : l.length ≤ Rows.uptoBulkAll l := by
  induction l with
  | nil => simp [Rows.uptoBulkAll]
  | cons d r ih => have := bulk_one d; simp only [Rows.uptoBulkAll, List.length_cons]; omega

theorem bulk_get {H : Type} (l : List (DataW H)) (j : Nat) (d : DataW H) (h : l[j]? = some d) : Rows.uptoBulk d ≤ Rows.uptoBulkAll l := by
  induction l generalizing j with
  | nil => simp at h
  | cons x r ih =>
    simp only [Rows.uptoBulkAll]
    cases j with
    | zero => simp at h; subst h; omega
    | succ j => have := ih j (by simpa using h); omega

theorem bulk_bytes {H : Type} {ds : List (DataW H)} (hk : Rows.uptoSmall H ds = true) {j c : Nat} {l : List UInt8} {d : DataW H} {W : World} {a : Option Addr}
    (hd : ds[j]? = some d) (h : SliceDatum d c l) (hl : Holds W a c l) : l.length ≤ 1048576 := by
  have hb : Rows.uptoBulkAll ds ≤ 1048576 := of_decide_eq_true hk
  have hg := bulk_get ds j d hd
  rcases h with ⟨_, rfl⟩ | ⟨e, s, rfl, hc⟩
  · simp
  · simp only [Rows.uptoBulk] at hg
    have h1 := bulk_count e
    have h2 := bulk_count s
    have := hl.1
    omega

theorem bulk_string {H : Type} {ds : List (DataW H)} (hk : Rows.uptoSmall H ds = true) {j : Nat} {l : List UInt8}
    (hd : ds[j]? = some (.lit (.string l))) : l.length ≤ 1048576 := by
  have hb : Rows.uptoBulkAll ds ≤ 1048576 := of_decide_eq_true hk
  have hg := bulk_get ds j _ hd
  simp only [Rows.uptoBulk] at hg
  omega
end Go.Proofs.YtdehimbfcilhpaaGreatDoor

/-
  How a case, rules and facts that came in are opened where they are together small: each text is at most 1048576 letters.
-/
namespace Go.Proofs.YtdehimbfcilhpaaGreatDoor
open Go.ChangeShapes Go.WideShapes Go.ChangeAt Go.RowKit

theorem bulk_mem {H : Type} {l : List (DataW H)} {d : DataW H} (h : d ∈ l) : Rows.uptoBulk d ≤ Rows.uptoBulkAll l := by
  obtain ⟨j, hj⟩ := List.getElem?_of_mem h
  exact bulk_get l j d hj
/-- a slice of records that came in -/
theorem cells_rowB {α : Type} (D : Kd α) (sl el : TypeId) {H : Type} {enc : TypeId × Value → H} {W : World} (hu : Tryz.prog.underlying sl = some (.slice el)) (hc : Tryz.prog.cellsOf el = D.k) (Q : α → Prop)
    (he : ∀ {fuel : Nat} {cs : List Value} {x : DataW H × List MemPlace}, DataW.trod enc Tryz.prog W 0 (fun _ => true) true fuel el cs = some x → Rows.uptoBulk x.1 ≤ 1048576 → ∃ v, cs = D.enc v ∧ Q v)
    {fuel : Nat} {cs : List Value} {x : DataW H × List MemPlace} (h : DataW.trod enc Tryz.prog W 0 (fun _ => true) true fuel sl cs = some x) (hw : Rows.uptoBulk x.1 ≤ 1048576) :
    ∃ a c xs, cs = [.slice a (List.length xs) c] ∧ Row D W a c xs ∧ c ≤ maxLen ∧ xs.length ≤ 1048576 ∧ ∀ v ∈ xs, Q v := by
  rcases Deep.open_slice hu h with ⟨rfl, _⟩ | ⟨ad, len, cap, m, n, Dd, Pl, rfl, _, hl, hm, hmm, rfl, hcl⟩
  · exact ⟨none, 0, [], rfl, Row.nil D W, by simp, by simp, fun _ h => by simp at h⟩
  · simp only [if_true] at hmm
    replace hmm := hmm.symm
    subst hmm
    rw [hc] at hcl
    simp only [Rows.uptoBulk] at hw
    have hbig : len ≤ 1048576 := by
      have := bulk_count ((List.range len).map Dd)
      rw [List.length_map, List.length_range] at this
      omega
    by_cases h0 : len = 0
    · subst h0
      exact ⟨some ad, cap, [], rfl, ⟨by simp, by simp, (fun h => by cases h), fun ad' ha j u hu => by simp at hu⟩, hm, by simp, fun _ h => by simp at h⟩
    have hk : ∀ i, i < len → ∃ k : α, W.cells? 0 (ad.add (i * D.k)) D.k = some (D.enc k) ∧ Q k := fun i hi => by
      obtain ⟨cs', h1, h2⟩ := hcl i (by omega)
      obtain ⟨k, rfl, hq⟩ := he h2 (by
        have := bulk_mem (l := (List.range len).map Dd) (d := Dd i) (List.mem_map.2 ⟨i, List.mem_range.2 hi, rfl⟩)
        show Rows.uptoBulk (Dd i) ≤ 1048576
        omega)
      exact ⟨k, h1, hq⟩
    obtain ⟨dk, _⟩ := hk 0 (by omega)
    have hk' : ∀ i, ∃ k : α, i < len → W.cells? 0 (ad.add (i * D.k)) D.k = some (D.enc k) ∧ Q k := fun i => by
      by_cases hi : i < len
      · obtain ⟨k, h⟩ := hk i hi
        exact ⟨k, fun _ => h⟩
      · exact ⟨dk, fun h => absurd h hi⟩
    obtain ⟨kf, hkf⟩ : ∃ kf : Nat → α, ∀ i, i < len → W.cells? 0 (ad.add (i * D.k)) D.k = some (D.enc (kf i)) ∧ Q (kf i) := ⟨fun i => Classical.choose (hk' i), fun i => Classical.choose_spec (hk' i)⟩
    have hlen : ((List.range len).map kf).length = len := by simp
    refine ⟨some ad, cap, (List.range len).map kf, by rw [hlen], ⟨by rw [hlen]; exact hl, by rw [hlen]; omega, (fun h => by cases h), fun ad' ha j u hu => ?_⟩, hm, by rw [hlen]; exact hbig, fun v hv => ?_⟩
    · cases ha
      obtain ⟨i, c, hi, hc3, rfl, hv⟩ := flat_place D.enc D.k D.len _ j u hu
      rw [hlen] at hi
      have h1 := (World.cells?_some (hkf i hi).1).2.2 c hc3
      rw [Deep.add_add] at h1
      rw [h1]
      simpa using hv
    · obtain ⟨i, hi, rfl⟩ := List.mem_map.1 hv
      exact (hkf i (List.mem_range.1 hi)).2
theorem cells_textB {H : Type} {enc : TypeId × Value → H} {W : World} {fuel : Nat} {cs : List Value} {x : DataW H × List MemPlace} (h : DataW.trod enc Tryz.prog W 0 (fun _ => true) true fuel 9 cs = some x) (hw : Rows.uptoBulk x.1 ≤ 1048576) : ∃ l : List UInt8, cs = [str l] ∧ l.length ≤ 1048576 := by
  obtain ⟨s, e, e', _⟩ := DataW.trod_string Tryz.underlying9 h
  subst e'
  obtain ⟨⟨l⟩⟩ := s
  simp only [Rows.uptoBulk] at hw
  have hw' : l.length + 1 ≤ 1048576 := hw
  exact ⟨l, e, by omega⟩
theorem cells_constB {H : Type} {enc : TypeId × Value → H} {W : World} {fuel : Nat} {cs : List Value} {x : DataW H × List MemPlace} (h : DataW.trod enc Tryz.prog W 0 (fun _ => true) true fuel 56 cs = some x) (hw : Rows.uptoBulk x.1 ≤ 1048576) : ∃ k : K, cs = kv k ∧ OkK k := by
  obtain ⟨y0, y1, y2, n, hx, hl, h0, h1, h2⟩ := Deep.trod_struct3 Tryz.underlying56 h
  rw [hx] at hw
  simp only [Rows.uptoBulk, Rows.uptoBulkAll] at hw
  rw [Tryz.cellsK] at hl
  obtain ⟨c0, c1, c2, rfl⟩ := three3 hl
  simp only [Tryz.cellsB, Tryz.cellsI, Tryz.cellsS, List.drop_zero, List.drop_succ_cons, List.take_succ_cons, List.take_zero] at h0 h1 h2
  obtain ⟨b, e0, _⟩ := DataW.trod_bool Tryz.underlying4 h0
  obtain ⟨i, e1, _, hwf⟩ := DataW.trod_int Tryz.underlying3 h1
  obtain ⟨l, e2, hs⟩ := cells_textB h2 (by omega)
  simp only [List.cons.injEq, and_true] at e0 e1 e2
  have hb := bounds_i64 hwf
  exact ⟨⟨b, i, l⟩, by rw [e0, e1, e2]; rfl, hb.1, hb.2, hs⟩
/-- a term, a literal, a rule, a fact of small texts -/
structure TmB (t : Tm) : Prop where
  k : OkK t.k
  v : t.v.length ≤ 1048576
theorem cells_termB {H : Type} {enc : TypeId × Value → H} {W : World} {fuel : Nat} {cs : List Value} {x : DataW H × List MemPlace} (h : DataW.trod enc Tryz.prog W 0 (fun _ => true) true fuel 58 cs = some x) (hw : Rows.uptoBulk x.1 ≤ 1048576) : ∃ t : Tm, cs = tv t ∧ TmB t := by
  obtain ⟨y0, y1, n, hx, hl, h0, h1⟩ := trod_struct2 Tryz.underlying58 h
  rw [hx] at hw
  simp only [Rows.uptoBulk, Rows.uptoBulkAll] at hw
  rw [Tryz.cellsT] at hl
  obtain ⟨c0, c1, c2, c3, rfl⟩ := four4 hl
  simp only [Tryz.cellsK, Tryz.cellsS, List.drop_zero, List.drop_succ_cons, List.take_succ_cons, List.take_zero] at h0 h1
  obtain ⟨l, e0, hs⟩ := cells_textB h0 (by omega)
  obtain ⟨k, e1, hk⟩ := cells_constB h1 (by omega)
  simp only [List.cons.injEq, and_true, kv] at e0 e1
  exact ⟨⟨l, k⟩, by rw [e0, e1.1, e1.2.1, e1.2.2]; rfl, hk, hs⟩
structure LvB (y : Lv) : Prop where
  by_ : TmB y.by_
  pred : y.pred.length ≤ 1048576
  args : ∀ t ∈ y.args, TmB t
  at_ : TmB y.at_
theorem cells_litB {H : Type} {enc : TypeId × Value → H} {W : World} {fuel : Nat} {cs : List Value} {x : DataW H × List MemPlace} (h : DataW.trod enc Tryz.prog W 0 (fun _ => true) true fuel 85 cs = some x) (hw : Rows.uptoBulk x.1 ≤ 1048576) : ∃ v : Lv, cs = lv v ∧ (Lv.Aw W v ∧ LvB v) := by
  obtain ⟨y0, y1, y2, y3, n, rfl, hl, h0, h1, h2, h3⟩ := Joins.trod_struct4 Tryz.underlying85 h
  simp only [Rows.uptoBulk, Rows.uptoBulkAll] at hw
  rw [Tryz.cellsL] at hl
  obtain ⟨a0, a1, a2, a3, a4, a5, a6, a7, a8, a9, rfl⟩ := ten hl
  simp only [Tryz.cellsT, Tryz.cellsTs, Tryz.cellsS, List.drop_zero, List.drop_succ_cons, List.take_succ_cons, List.take_zero] at h0 h1 h2 h3
  obtain ⟨t0, e0, k0⟩ := cells_termB h0 (by omega)
  obtain ⟨l1, e1, g1⟩ := cells_textB h1 (by omega)
  obtain ⟨a, c, ts, e2, hA, _, _, k2⟩ := cells_rowB tK 59 58 Tryz.underlying59 Tryz.cellsT TmB (fun h hw => cells_termB h hw) h2 (by omega)
  obtain ⟨t3, e3, k3⟩ := cells_termB h3 (by omega)
  simp only [List.cons.injEq, and_true, tv] at e0 e1 e2 e3
  exact ⟨⟨t0, l1, a, c, ts, t3⟩, by rw [e0.1, e0.2.1, e0.2.2.1, e0.2.2.2, e1, e2, e3.1, e3.2.1, e3.2.2.1, e3.2.2.2]; rfl, hA, ⟨k0, g1, k2, k3⟩⟩
structure RvB (x : Rv) : Prop where
  home : TmB x.home
  pred : x.pred.length ≤ 1048576
  args : ∀ t ∈ x.args, TmB t
  to_ : TmB x.to_
  body : ∀ y ∈ x.body, LvB y
theorem cells_ruleB {H : Type} {enc : TypeId × Value → H} {W : World} {fuel : Nat} {cs : List Value} {x : DataW H × List MemPlace} (h : DataW.trod enc Tryz.prog W 0 (fun _ => true) true fuel 62 cs = some x) (hw : Rows.uptoBulk x.1 ≤ 1048576) : ∃ v : Rv, cs = rv v ∧ (Rv.Aw W v ∧ RvB v) := by
  obtain ⟨y0, y1, y2, y3, y4, n, hx, hl, h0, h1, h2, h3, h4⟩ := trod_struct5 Tryz.underlying62 h
  rw [hx] at hw
  simp only [Rows.uptoBulk, Rows.uptoBulkAll] at hw
  rw [Tryz.cellsR] at hl
  obtain ⟨a0, a1, a2, a3, a4, a5, a6, a7, a8, a9, a10, rfl⟩ := eleven hl
  simp only [Tryz.cellsT, Tryz.cellsTs, Tryz.cellsLs, Tryz.cellsS, List.drop_zero, List.drop_succ_cons, List.take_succ_cons, List.take_zero] at h0 h1 h2 h3 h4
  obtain ⟨t0, e0, k0⟩ := cells_termB h0 (by omega)
  obtain ⟨l1, e1, g1⟩ := cells_textB h1 (by omega)
  obtain ⟨a, c, ts, e2, hA, _, _, k2⟩ := cells_rowB tK 59 58 Tryz.underlying59 Tryz.cellsT TmB (fun h hw => cells_termB h hw) h2 (by omega)
  obtain ⟨t3, e3, k3⟩ := cells_termB h3 (by omega)
  obtain ⟨a', c', ls, e4, hL, _, _, k4⟩ := cells_rowB lK 60 85 Tryz.underlying60 Tryz.cellsL (fun v : Lv => Lv.Aw W v ∧ LvB v) (fun h hw => cells_litB h hw) h4 (by omega)
  simp only [List.cons.injEq, and_true, tv] at e0 e1 e2 e3 e4
  exact ⟨⟨t0, l1, a, c, ts, t3, a', c', ls⟩, by rw [e0.1, e0.2.1, e0.2.2.1, e0.2.2.2, e1, e2, e3.1, e3.2.1, e3.2.2.1, e3.2.2.2, e4]; rfl, ⟨hA, hL, fun l hl => (k4 l hl).1⟩, ⟨k0, g1, k2, k3, fun l hl => (k4 l hl).2⟩⟩
structure FvB (f : Fv) : Prop where
  at_ : f.at_.length ≤ 1048576
  by_ : f.by_.length ≤ 1048576
  pred : f.pred.length ≤ 1048576
  ks : ∀ k ∈ f.ks, OkK k
theorem cells_factB {H : Type} {enc : TypeId × Value → H} {W : World} {fuel : Nat} {cs : List Value} {x : DataW H × List MemPlace} (h : DataW.trod enc Tryz.prog W 0 (fun _ => true) true fuel 36 cs = some x) (hw : Rows.uptoBulk x.1 ≤ 1048576) : ∃ f : Fv, cs = fv f ∧ (Fv.At W f ∧ FvB f) := by
  obtain ⟨y0, y1, y2, y3, n, rfl, hl, h0, h1, h2, h3⟩ := Joins.trod_struct4 Tryz.underlying36 h
  simp only [Rows.uptoBulk, Rows.uptoBulkAll] at hw
  rw [Tryz.cellsF] at hl
  obtain ⟨c0, c1, c2, c3, rfl⟩ := four4 hl
  simp only [Tryz.cellsA, Tryz.cellsS, List.drop_zero, List.drop_succ_cons, List.take_succ_cons, List.take_zero] at h0 h1 h2 h3
  obtain ⟨l0, e0, g0⟩ := cells_textB h0 (by omega)
  obtain ⟨l1, e1, g1⟩ := cells_textB h1 (by omega)
  obtain ⟨l2, e2, g2⟩ := cells_textB h2 (by omega)
  obtain ⟨a, c, ks, e3, hA, _, _, hk⟩ := cells_rowB kK 34 56 Tryz.underlying34 Tryz.cellsK OkK (fun h hw => cells_constB h hw) h3 (by omega)
  simp only [List.cons.injEq, and_true] at e0 e1 e2 e3
  exact ⟨⟨l0, l1, l2, a, c, ks⟩, by rw [e0, e1, e2, e3]; rfl, row_args hA, ⟨g0, g1, g2, hk⟩⟩
/-- rules, facts, texts that came in -/
structure RsB (W : World) (a : Option Addr) (c : Nat) (xs : List Rv) : Prop where
  at_ : Rws W a c xs
  each : ∀ x ∈ xs, RvB x
structure FsB (W : World) (a : Option Addr) (c : Nat) (xs : List Fv) : Prop where
  lies : Lies W a c xs
  at_ : ∀ x ∈ xs, Fv.At W x
  each : ∀ x ∈ xs, FvB x
structure TsB (W : World) (a : Option Addr) (c : Nat) (xs : List (List UInt8)) : Prop where
  row : Row sK W a c xs
  each : ∀ x ∈ xs, x.length ≤ 1048576
theorem cells_rulesB {H : Type} {enc : TypeId × Value → H} {W : World} {fuel : Nat} {cs : List Value} {x : DataW H × List MemPlace} (h : DataW.trod enc Tryz.prog W 0 (fun _ => true) true fuel 23 cs = some x) (hw : Rows.uptoBulk x.1 ≤ 1048576) : ∃ a c xs, cs = [.slice a (List.length xs) c] ∧ RsB W a c xs := by
  obtain ⟨a, c, xs, h1, h2, _, _, h3⟩ := cells_rowB rK 23 62 Tryz.underlying23 Tryz.cellsR (fun v : Rv => Rv.Aw W v ∧ RvB v) (fun h hw => cells_ruleB h hw) h hw
  exact ⟨a, c, xs, h1, ⟨h2, fun x hx => (h3 x hx).1⟩, fun x hx => (h3 x hx).2⟩
theorem cells_factsB {H : Type} {enc : TypeId × Value → H} {W : World} {fuel : Nat} {cs : List Value} {x : DataW H × List MemPlace} (h : DataW.trod enc Tryz.prog W 0 (fun _ => true) true fuel 24 cs = some x) (hw : Rows.uptoBulk x.1 ≤ 1048576) : ∃ a c xs, cs = [.slice a (List.length xs) c] ∧ FsB W a c xs := by
  obtain ⟨a, c, xs, h1, h2, hm, hl, h3⟩ := cells_rowB fK 24 36 Tryz.underlying24 Tryz.cellsF (fun v : Fv => Fv.At W v ∧ FvB v) (fun h hw => cells_factB h hw) h hw
  exact ⟨a, c, xs, h1, ⟨h2.room, hm, by omega, h2.void, h2.cells⟩, fun x hx => (h3 x hx).1, fun x hx => (h3 x hx).2⟩
theorem Tryz.cellsSt : Tryz.prog.cellsOf 22 = 1 := by kernel_rfl
theorem Tryz.cellsRs : Tryz.prog.cellsOf 23 = 1 := by kernel_rfl
theorem Tryz.cellsCs : Tryz.prog.cellsOf 26 = 4 := by kernel_rfl
theorem cells_textsB {H : Type} {enc : TypeId × Value → H} {W : World} {fuel : Nat} {cs : List Value} {x : DataW H × List MemPlace} (h : DataW.trod enc Tryz.prog W 0 (fun _ => true) true fuel 22 cs = some x) (hw : Rows.uptoBulk x.1 ≤ 1048576) : ∃ a c xs, cs = [.slice a (List.length xs) c] ∧ TsB W a c xs := by
  obtain ⟨a, c, xs, h1, h2, _, _, h3⟩ := cells_rowB sK 22 9 Tryz.underlying22 Tryz.cellsS (fun l : List UInt8 => l.length ≤ 1048576) (fun h hw => cells_textB h hw) h hw
  exact ⟨a, c, xs, h1, h2, h3⟩
/-- A CASE that came in -/
structure CsB (W : World) (ha : Option Addr) (hc : Nat) (hs : List (List UInt8)) (na : Option Addr) (nc : Nat) (ns : List (List UInt8)) (ra : Option Addr) (rc : Nat) (rs : List Rv) (fa : Option Addr) (fc : Nat) (zs : List Fv) : Prop where
  homes : TsB W ha hc hs
  names : TsB W na nc ns
  rules : RsB W ra rc rs
  facts : FsB W fa fc zs
set_option maxRecDepth 100000 in
theorem open_caseB {H : Type} {enc : TypeId × Value → H} {W : World} {base : Nat} {v : Value} {d : DataW H} {p : List MemPlace} (hw : Rows.uptoBulk d ≤ 1048576) (hv : Value.okWide Tryz.prog W .any base 26 v) (ht : DataW.Trod enc Tryz.prog W 0 (fun _ => true) true 26 v d p) :
    ∃ ha hc hs na nc ns ra rc rs fa fc zs, v = caseV ha hc hs na nc ns ra rc rs fa fc zs ∧ CsB W ha hc hs na nc ns ra rc rs fa fc zs := by
  obtain ⟨cs, rfl, _⟩ := okWide_struct Tryz.underlying26 hv
  obtain ⟨fuel, hf⟩ := ht
  obtain ⟨y0, y1, y2, y3, n, hx, hl, h0, h1, h2, h3⟩ := Joins.trod_struct4 Tryz.underlying26 hf
  have hd : d = (.agg [y0.1, y1.1, y2.1, y3.1]) := congrArg Prod.fst hx
  rw [hd] at hw
  simp only [Rows.uptoBulk, Rows.uptoBulkAll] at hw
  rw [Tryz.cellsCs] at hl
  obtain ⟨c0, c1, c2, c3, e⟩ := four4 hl
  rw [e] at h0 h1 h2 h3
  simp only [Tryz.cellsSt, Tryz.cellsRs, Tryz.cellsFs, List.drop_zero, List.drop_succ_cons, List.take_succ_cons, List.take_zero] at h0 h1 h2 h3
  obtain ⟨ha, hc, hs, e0, g0⟩ := cells_textsB h0 (by omega)
  obtain ⟨na, nc, ns, e1, g1⟩ := cells_textsB h1 (by omega)
  obtain ⟨ra, rc, rs, e2, g2⟩ := cells_rulesB h2 (by omega)
  obtain ⟨fa, fc, zs, e3, g3⟩ := cells_factsB h3 (by omega)
  simp only [List.cons.injEq, and_true] at e0 e1 e2 e3
  refine ⟨ha, hc, hs, na, nc, ns, ra, rc, rs, fa, fc, zs, ?_, ⟨g0, g1, g2, g3⟩⟩
  rw [Value.cells] at e
  rw [show cs = #[c0, c1, c2, c3] by rw [← Array.toArray_toList (xs := cs), e], e0, e1, e2, e3]
set_option maxRecDepth 100000 in
theorem open_factsB {H : Type} {enc : TypeId × Value → H} {W : World} {base : Nat} {v : Value} {d : DataW H} {p : List MemPlace} (hw : Rows.uptoBulk d ≤ 1048576) (hv : Value.okWide Tryz.prog W .any base 24 v) (ht : DataW.Trod enc Tryz.prog W 0 (fun _ => true) true 24 v d p) : ∃ a c xs, v = .slice a (List.length xs) c ∧ FsB W a c xs := by
  obtain ⟨a, len, cap, rfl⟩ := okWide_slice Tryz.underlying24 hv
  obtain ⟨fuel, hf⟩ := ht
  obtain ⟨a', c', xs, h1, h2⟩ := cells_factsB hf hw
  simp only [Value.cells, List.cons.injEq, and_true] at h1
  exact ⟨a', c', xs, h1, h2⟩
set_option maxRecDepth 100000 in
theorem open_rulesB {H : Type} {enc : TypeId × Value → H} {W : World} {base : Nat} {v : Value} {d : DataW H} {p : List MemPlace} (hw : Rows.uptoBulk d ≤ 1048576) (hv : Value.okWide Tryz.prog W .any base 23 v) (ht : DataW.Trod enc Tryz.prog W 0 (fun _ => true) true 23 v d p) : ∃ a c xs, v = .slice a (List.length xs) c ∧ RsB W a c xs := by
  obtain ⟨a, len, cap, rfl⟩ := okWide_slice Tryz.underlying23 hv
  obtain ⟨fuel, hf⟩ := ht
  obtain ⟨a', c', xs, h1, h2⟩ := cells_rulesB hf hw
  simp only [Value.cells, List.cons.injEq, and_true] at h1
  exact ⟨a', c', xs, h1, h2⟩
end Go.Proofs.YtdehimbfcilhpaaGreatDoor

/-
  The functions of one byte, the program's and the reference's: what they answer; the world is as it was.
-/
namespace Go.Proofs.YtdehimbfcilhpaaGreatDoor
open Go.RowKit


theorem lsmall_at (c : UInt8) (w : World) : Calls Tryz.prog 94 #[.int .u8 (c.toNat : Int)] w fun e w' => e = .returned (.bool (Lx.small c)) ∧ w = w' := by
  generalize hk : c.toNat = k
  go_enter Tryz.func94, Tryz.ntmps94
  go_wp2
  all_goals (go_ret; refine ⟨ret_bool ?_, rfl⟩; simp only [Lx.small, hk])
  all_goals (rw [Bool.eq_iff_iff]; simp; try omega)

theorem lgreat_at (c : UInt8) (w : World) : Calls Tryz.prog 96 #[.int .u8 (c.toNat : Int)] w fun e w' => e = .returned (.bool (Lx.great c)) ∧ w = w' := by
  generalize hk : c.toNat = k
  go_enter Tryz.func96, Tryz.ntmps96
  go_wp2
  all_goals (go_ret; refine ⟨ret_bool ?_, rfl⟩; simp only [Lx.great, hk])
  all_goals (rw [Bool.eq_iff_iff]; simp; try omega)

theorem ldigit_at (c : UInt8) (w : World) : Calls Tryz.prog 97 #[.int .u8 (c.toNat : Int)] w fun e w' => e = .returned (.bool (Lx.digit c)) ∧ w = w' := by
  generalize hk : c.toNat = k
  go_enter Tryz.func97, Tryz.ntmps97
  go_wp2
  all_goals (go_ret; refine ⟨ret_bool ?_, rfl⟩; simp only [Lx.digit, hk])
  all_goals (rw [Bool.eq_iff_iff]; simp; try omega)

theorem lplain_at (c : UInt8) (w : World) : Calls Tryz.prog 135 #[.int .u8 (c.toNat : Int)] w fun e w' => e = .returned (.bool (Lx.plain c)) ∧ w = w' := by
  generalize hk : c.toNat = k
  go_enter Tryz.func135, Tryz.ntmps135
  go_wp2
  all_goals (go_ret; refine ⟨ret_bool ?_, rfl⟩; simp only [Lx.plain, hk])
  all_goals (rw [Bool.eq_iff_iff]; simp; try omega)

theorem lnolf_at (c : UInt8) (w : World) : Calls Tryz.prog 93 #[.int .u8 (c.toNat : Int)] w fun e w' => e = .returned (.bool (Lx.noLf c)) ∧ w = w' := by
  generalize hk : c.toNat = k
  go_enter Tryz.func93, Tryz.ntmps93
  go_wp2
  all_goals (go_ret; refine ⟨ret_bool ?_, rfl⟩; simp only [Lx.noLf, hk])
  all_goals (rw [Bool.eq_iff_iff]; simp; try omega)

theorem linner_at (c : UInt8) (w : World) : Calls Tryz.prog 132 #[.int .u8 (c.toNat : Int)] w fun e w' => e = .returned (.bool (Lx.inner c)) ∧ w = w' := by
  have h1 := hideP (lsmall_at c)
  have h2 := hideP (lgreat_at c)
  have h3 := hideP (ldigit_at c)
  have hi : Lx.inner c = (Lx.small c || Lx.great c || Lx.digit c || decide (c.toNat = 95)) := rfl
  generalize Lx.inner c = r at *
  generalize Lx.small c = s1 at *
  generalize Lx.great c = s2 at *
  generalize Lx.digit c = s3 at *
  generalize hk : c.toNat = k at *
  have HI := hideP hi
  clear hi
  go_enter Tryz.func132, Tryz.ntmps132
  go_wp2_with (first
    | (go_at_call 94; refine (h1.out _).mono ?_; rintro e w1 ⟨rfl, rfl⟩)
    | (go_at_call 96; refine (h2.out _).mono ?_; rintro e w1 ⟨rfl, rfl⟩)
    | (go_at_call 97; refine (h3.out _).mono ?_; rintro e w1 ⟨rfl, rfl⟩))
  all_goals (go_ret; refine ⟨ret_bool ?_, rfl⟩; rw [HI.out])
  all_goals (simp_all <;> (rw [Bool.eq_iff_iff]; simp; try omega))

end Go.Proofs.YtdehimbfcilhpaaGreatDoor
