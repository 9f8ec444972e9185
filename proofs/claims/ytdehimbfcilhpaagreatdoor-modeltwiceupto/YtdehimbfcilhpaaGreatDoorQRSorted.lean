/-
  The reference's from, at any literal; its Once.
-/
import Derived.Test.YtdehimbfcilhpaaGreatDoorQFr13
import Derived.Test.YtdehimbfcilhpaaGreatDoorQD2
import Derived.Test.YtdehimbfcilhpaaGreatDoorQWith
namespace Go.Proofs.YtdehimbfcilhpaaGreatDoor
open Go.RowKit Go.Lib Go.Shelf

theorem from_at (w0 wf : World) (x : Rv) (q base M : Nat) (ha : Option Addr) (hc : Nat) (hs : List (List UInt8)) (na : Option Addr) (nc : Nat) (ns : List (List UInt8)) (fa : Option Addr) (fc : Nat) (zs : List Fv) (hi : FrIn w0 wf x q base M ha hc hs na nc ns fa fc zs) : ∀ n k, x.body.length - k = n → k ≤ x.body.length → FrAt w0 wf x q base M ha hc hs na nc ns fa fc zs k
  | 0, k, h1, h2 => by
    obtain rfl : k = x.body.length := by omega
    intro w ea ec e oa oc ys c hb _ hbase hq hc0 he hel ho hk hM
    rw [List.drop_length] at hM ⊢
    exact from_nil w0 wf x q base M ha hc hs na nc ns fa fc zs hi w ea ec e oa oc ys c hb hbase hq hc0 he ho hk hM
  | n + 1, k, h1, h2 => from_cons w0 wf x q base M ha hc hs na nc ns fa fc zs hi k (by omega) (from_at w0 wf x q base M ha hc hs na nc ns fa fc zs hi n (k + 1) (by omega) (by omega))
/-- what is known of rules, homes, names and facts -/
structure RIn (w0 w : World) (q : Nat) (ra : Option Addr) (rc : Nat) (rs : List Rv) (ha : Option Addr) (hc : Nat) (hs : List (List UInt8)) (na : Option Addr) (nc : Nat) (ns : List (List UInt8)) (fa : Option Addr) (fc : Nat) (zs : List Fv) : Prop where
  rules : Rws w0 ra rc rs
  smr : ∀ r ∈ rs, SmR r
  homes : Row sK w0 ha hc hs
  names : Row sK w0 na nc ns
  facts : ∀ W, But q w W → Fts W fa fc zs
  zl : zs.length ≤ 1000000
  most : rs.length * hs.length ≤ 1000000
theorem RIn.fr {w0 w : World} {q : Nat} {ra : Option Addr} {rc : Nat} {rs : List Rv} {ha : Option Addr} {hc : Nat} {hs : List (List UInt8)} {na : Option Addr} {nc : Nat} {ns : List (List UInt8)} {fa : Option Addr} {fc : Nat} {zs : List Fv} (h : RIn w0 w q ra rc rs ha hc hs na nc ns fa fc zs) {x : Rv} (hx : x ∈ rs) {base : Nat} (h1 : w0.heap.size ≤ q) (h2 : q < base) : FrIn w0 w x q base 1000000000 ha hc hs na nc ns fa fc zs :=
  ⟨h.rules.each x hx, h.smr x hx, h.facts, h.zl, h.names, h1, h2, Nat.le_refl _⟩
theorem byRule_take {d : Ml.Wd} {m : List F} {rs : List Rv} {i : Nat} (hi : i < rs.length) (st : Ml.Cn × List F) : ((rs.map Rv.r).take (i + 1)).foldl (Ml.byRule d m) st = Ml.byRule d m (((rs.map Rv.r).take i).foldl (Ml.byRule d m) st) rs[i].r := by
  rw [List.take_succ_eq_append_getElem (by simpa using hi), List.foldl_append]; simp
theorem byHome_take {d : Ml.Wd} {m : List F} {r : Ru} {hs : List (List UInt8)} {j : Nat} (hj : j < hs.length) (st : Ml.Cn × List F) : (hs.take (j + 1)).foldl (Ml.byHome d r m) st = Ml.byHome d r m ((hs.take j).foldl (Ml.byHome d r m) st) hs[j] := by
  rw [List.take_succ_eq_append_getElem hj, List.foldl_append]; rfl
theorem byHome_no {d : Ml.Wd} {m : List F} {r : Ru} {h : List UInt8} {st : Ml.Cn × List F} (hu : Mt.uni r.home (Mt.nm h) [] = none) : Ml.byHome d r m st h = st := by unfold Ml.byHome; rw [hu]
theorem byHome_yes {d : Ml.Wd} {m : List F} {r : Ru} {h : List UInt8} {st : Ml.Cn × List F} {e : Mt.Env} (hu : Mt.uni r.home (Mt.nm h) [] = some e) : Ml.byHome d r m st h = Ml.frm d r m r.body e st := by unfold Ml.byHome; rw [hu]

/-- what Once tells -/
structure OnAns (w : World) (q : Nat) (ha : Option Addr) (hc : Nat) (hs : List (List UInt8)) (na : Option Addr) (nc : Nat) (ns : List (List UInt8)) (l : List Ru) (m : List F) (c : Ml.Cn) (en : Ending) (w' : World) : Prop where
  ans : ∃ oa oc us c', en = .returned (.slice oa (List.length us) oc) ∧ OwF w' w.heap.size oa oc us ∧ EachK w' us ∧ Wq w' q ha hc hs na nc ns c' ∧ Ml.onceR ⟨hs, ns⟩ l m c = (c', us.map Fv.f) ∧ us.length ≤ 1060001
  but : But q w w'

set_option maxRecDepth 100000 in
set_option maxHeartbeats 4000000 in
theorem ronce_at (w0 : World) (q : Nat) (ra : Option Addr) (rc : Nat) (rs : List Rv) (ha : Option Addr) (hc : Nat) (hs : List (List UInt8)) (na : Option Addr) (nc : Nat) (ns : List (List UInt8)) (fa : Option Addr) (fc : Nat) (zs : List Fv) (c : Ml.Cn) (w : World) (hi : RIn w0 w q ra rc rs ha hc hs na nc ns fa fc zs) (hb : Below w0.heap.size w0 w) (hq0 : w0.heap.size ≤ q) (hq : Wq w q ha hc hs na nc ns c) (hc0 : c.Ok) :
    Calls Tryz.prog 11 #[ptr q, .slice ra rs.length rc, .slice fa zs.length fc] w (OnAns w q ha hc hs na nc ns (rs.map Rv.r) (zs.map Fv.f) c) := by
  have mixed : Tryz.prog.follows .mixedOrders = true := by kernel_rfl
  have hqb : q < w.heap.size := heap_lt hq
  have fewr := hi.rules.row.few
  have fewh := hi.homes.few
  have HM := hideP hi.most
  have HI := hideP hi
  have HC := hideP hc0
  clear hi hc0
  go_enter Tryz.func11, Tryz.ntmps11
  go_wp2_with fail
  go_loopw [7, 8] (fun v7 v8 wr => ∃ (i : Nat) (us : List Fv) (a2 : Option Addr) (m2 : Nat) (c2 : Ml.Cn), v7 = .slice a2 (List.length us) m2 ∧ v8 = .int .i64 (i : Int) ∧ i ≤ rs.length ∧ OwF wr w.heap.size a2 m2 us ∧ EachK wr us ∧ Wq wr q ha hc hs na nc ns c2 ∧ Hid (c2.Ok) ∧ Hid (us.length ≤ i * hs.length + c2.done) ∧ Hid (((rs.map Rv.r).take i).foldl (Ml.byRule ⟨hs, ns⟩ (zs.map Fv.f)) (c, []) = (c2, us.map Fv.f)) ∧ But q w wr) (fun _ v8 _ => rs.length - (intOf v8).toNat)
  case atStart => exact ⟨0, [], none, 0, c, rfl, rfl, Nat.zero_le _, OwF.nil _ _, (fun _ h => by cases h), hq, HC, by show _ ≤ _; simp, rfl, But.refl _ _⟩
  case round =>
    obtain ⟨i, us, a2, m2, c2, rfl, rfl, hil, OF, EK, WQ, CO, LM, FO, BT⟩ := hrel
    clear hq
    by_cases hlt : i < rs.length
    · have q2 : (i : Int) < (rs.length : Int) := by omega
      obtain ⟨P1, O1, rfl⟩ := HI.out.rules.row.addr (by omega)
      have LR : Hid (∀ W, Below w0.heap.size w0 W → W.rangeAt P1 (O1 + i * 11) (rv (rs[i]'hlt))) := fun W h => (HI.out.rules.row.below h (Nat.le_refl _)).range i hlt
      have hrm : Hid ((rs[i]'hlt) ∈ rs) := List.getElem_mem hlt
      have BTK := byRule_take (d := ⟨hs, ns⟩) (m := zs.map Fv.f) hlt (c, [])
      rw [FO.out] at BTK
      have HTK := hideP BTK
      clear BTK FO
      generalize (rs[i]'hlt) = x at *
      go_wp2_with fail
      go_loopw [7, 9] (fun v7 v9 wi => ∃ (j : Nat) (ut : List Fv) (a3 : Option Addr) (m3 : Nat) (c3 : Ml.Cn), v7 = .slice a3 (List.length ut) m3 ∧ v9 = .int .i64 (j : Int) ∧ j ≤ hs.length ∧ OwF wi w.heap.size a3 m3 ut ∧ EachK wi ut ∧ Wq wi q ha hc hs na nc ns c3 ∧ Hid (c3.Ok) ∧ Hid (ut.length ≤ i * hs.length + j + c3.done) ∧ Hid ((hs.take j).foldl (Ml.byHome ⟨hs, ns⟩ x.r (zs.map Fv.f)) (c2, us.map Fv.f) = (c3, ut.map Fv.f)) ∧ But q w wi) (fun _ v9 _ => hs.length - (intOf v9).toNat)
      case atStart => exact ⟨0, us, a2, m2, c2, rfl, rfl, Nat.zero_le _, OF, EK, WQ, CO, by show _ ≤ _; have := LM.out; omega, rfl, BT⟩
      case round =>
        obtain ⟨j, ut, a3, m3, c3, rfl, rfl, hjl, OF3, EK3, WQ3, CO3, LM3, FO3, BT3⟩ := hrel
        clear OF EK WQ BT LM CO
        have BW3 : Below w0.heap.size w0 wr := hb.trans (BT3.lower hq0 hb.size)
        have d0 : wr.cell? ⟨q, 0, none⟩ = some (.slice ha hs.length hc) := by rw [heap_cell WQ3]; rfl
        by_cases hjt : j < hs.length
        · have q3 : (j : Int) < (hs.length : Int) := by omega
          obtain ⟨P2, O2, rfl⟩ := HI.out.homes.addr (by omega)
          have HHm : Hid (∀ W, Below w0.heap.size w0 W → W.cell? ⟨P2, O2 + j, none⟩ = some (str (hs[j]'hjt))) := fun W h => (HI.out.homes.below h (Nat.le_refl _)).text j hjt
          have BTK := byHome_take (d := ⟨hs, ns⟩) (m := zs.map Fv.f) (r := x.r) hjt (c2, us.map Fv.f)
          rw [FO3.out] at BTK
          have HTH := hideP BTK
          clear BTK FO3
          generalize (hs[j]'hjt) = home at *
          have K2 : ∀ W, Below wr.heap.size wr W → (W.cell? ⟨P1, O1 + i * 11, none⟩ = some (str x.home.v) ∧ W.cell? ⟨P1, O1 + i * 11 + 1, none⟩ = some (.bool x.home.k.num) ∧ W.cell? ⟨P1, O1 + i * 11 + 2, none⟩ = some (.int .i64 x.home.k.n) ∧ W.cell? ⟨P1, O1 + i * 11 + 3, none⟩ = some (str x.home.k.s) ∧ W.cell? ⟨q, 0, none⟩ = some (.slice (some ⟨P2, O2, none⟩) hs.length hc) ∧ W.cell? ⟨P2, O2 + j, none⟩ = some (str home)) := fun W h => by
            have hw0 := BW3.trans (h.mono BW3.size)
            have r := LR.out W hw0
            exact ⟨r 0 _ rfl, r 1 _ rfl, r 2 _ rfl, r 3 _ rfl, by rw [heap_cell (below_heap h WQ3)]; rfl, HHm.out W hw0⟩
          have HK2 := hideP K2
          have GD := (Below.refl wr.heap.size wr).drew
          have TN := hideP (fun W => rName_at home W)
          have TU := hideP (fun W => rUnify_at x.home (Mt.nm home) none 0 [] W (Row.nil _ _) (by simp))
          clear K2
          go_wp2_with fail
          go_region_held3 (fun W => W.cell? ⟨P1, O1 + i * 11, none⟩ = some (str x.home.v) ∧ W.cell? ⟨P1, O1 + i * 11 + 1, none⟩ = some (.bool x.home.k.num) ∧ W.cell? ⟨P1, O1 + i * 11 + 2, none⟩ = some (.int .i64 x.home.k.n) ∧ W.cell? ⟨P1, O1 + i * 11 + 3, none⟩ = some (str x.home.k.s) ∧ W.cell? ⟨q, 0, none⟩ = some (.slice (some ⟨P2, O2, none⟩) hs.length hc) ∧ W.cell? ⟨P2, O2 + j, none⟩ = some (str home)) (first | with_reducible exact HK2.out _ GD | with_reducible exact HK2.out _ G1 | with_reducible exact HK2.out _ G2) (first
            | (go_at_call 28; refine (TN.out _).mono ?_; rintro e1 w1 ⟨rfl, b1⟩; have G1 := Below.then GD b1)
            | (go_at_call 27; refine (TU.out _).mono ?_; rintro e2 w2 ⟨⟨a9, c9, rfl, E9⟩, b2⟩; have G2 := Below.then G1 b2))
          have T9 : But q w w2 := BT3.trans (But.of_below G2)
          have WQ9 := WQ3.next G2
          have OF9 := OF3.below G2
          have EK9 := EK3.safe (Safe.below G2 : Safe 56 _ _)
          have BW9 : Below w0.heap.size w0 w2 := hb.trans (T9.lower hq0 hb.size)
          clear TN TU HK2 GD b1 b2 d0
          rcases uni_two x.home (Mt.nm home) [] with ⟨u1, u2, u3⟩ | ⟨e1, u1, u2, u3, u4⟩
          · rw [u3]
            have FO := hideP (HTH.out.trans (byHome_no u1))
            clear u1 u2 u3
            go_wp2_with fail
            exact ⟨⟨j + 1, ut, a3, m3, c3, rfl, by go_num, by omega, OF9, EK9, WQ9, CO3, by show _ ≤ _; have := LM3.out; omega, FO, T9⟩, by simp [intOf]; omega⟩
          · rw [u3]
            rw [u2] at E9 ⊢
            have FO := HTH.out.trans (byHome_yes u1)
            have MX : i * hs.length + j ≤ 1000000 := by
              have h1 := HM.out
              have h2 : (i + 1) * hs.length ≤ rs.length * hs.length := Nat.mul_le_mul_right _ hlt
              rw [Nat.succ_mul] at h2
              omega
            have TF := hideP (from_at w0 w x q w.heap.size 1000000000 (some ⟨P2, O2, none⟩) hc hs na nc ns fa fc zs (HI.out.fr hrm.out hq0 hqb) x.body.length 0 (by omega) (Nat.zero_le _) w2 a9 c9 e1 a3 m3 ut c3 BW9 T9 T9.size WQ9 CO3.out E9 (by simpa using u4) OF9 EK9 (by have h1 := LM3.out; have h2 := Ml.cr_le ((x.body.drop 0).map Lv.l); omega))
            rw [List.drop_zero] at TF
            have r2 := LR.out w2 BW9
            have iQ : (Tryz.prog.info? 62).map (·.size) = some (rv x).length := iR11
            have HFO := hideP FO
            clear u1 u2 u3 u4 FO MX
            go_wp2_with (refine wpList_load_mid rfl 62 _ rfl P1 (O1 + i * 11) rfl (rv x) _ r2 Tryz.underlying62 rfl iQ ?_)
            refine TF.out.mono ?_
            rintro e10 w10 ⟨⟨a10, m10, us10, c10, rfl, OF10, EK10, WQ10, F10⟩, BT10⟩
            have T10 := T9.trans BT10
            have CO10 : c10.Ok := by
              have h := Ml.frm_ok (w := ⟨hs, ns⟩) (r := x.r) (m := zs.map Fv.f) (x.body.map Lv.l) e1 (st := (c3, ut.map Fv.f)) CO3.out
              rw [F10] at h; exact h
            have LM10 : us10.length ≤ i * hs.length + (j + 1) + c10.done := by
              have h := Ml.frm_len (w := ⟨hs, ns⟩) (r := x.r) (m := zs.map Fv.f) (x.body.map Lv.l) e1 (c3, ut.map Fv.f)
              rw [F10] at h
              have h1 := LM3.out
              have h2 := Ml.cr_le (x.body.map Lv.l)
              simp only [List.length_map] at h
              omega
            have FO10 := hideP (HFO.out.trans F10)
            have H10 := hideP CO10
            have L10 := hideP LM10
            clear CO10 LM10 F10 TF
            go_wp2_with fail
            exact ⟨⟨j + 1, us10, a10, m10, c10, rfl, by go_num, by omega, OF10, EK10, WQ10, H10, L10, FO10, T10⟩, by simp [intOf]; omega⟩
        · have q3 : ¬ (j : Int) < (hs.length : Int) := by omega
          obtain rfl : j = hs.length := by omega
          have FO := FO3.out
          rw [List.take_length] at FO
          have HF := hideP (HTK.out.trans FO)
          have LL : Hid (ut.length ≤ (i + 1) * hs.length + c3.done) := by show _ ≤ _; have := LM3.out; rw [Nat.succ_mul]; omega
          clear FO FO3
          go_wp2_with fail
          exact ⟨⟨i + 1, ut, a3, m3, c3, rfl, by go_num, by omega, OF3, EK3, WQ3, CO3, LL, HF, BT3⟩, by simp [intOf]; omega⟩
    · have q2 : ¬ (i : Int) < (rs.length : Int) := by omega
      have FIN := FO.out
      rw [show i = (rs.map Rv.r).length by rw [List.length_map]; omega, List.take_length] at FIN
      have HF := hideP FIN
      have LL : Hid (us.length ≤ 1060001) := by show _ ≤ _; have h1 := LM.out; have h2 := CO.out.most; have h3 := HM.out; have h4 : i * hs.length ≤ rs.length * hs.length := Nat.mul_le_mul_right _ hil; omega
      clear FIN FO
      go_wp2_with fail
      go_ret
      exact ⟨⟨a2, m2, us, c2, rfl, OF, EK, WQ, HF.out, LL.out⟩, BT⟩
end Go.Proofs.YtdehimbfcilhpaaGreatDoor

/-
  The reference's Sorted.
-/
namespace Go.Proofs.YtdehimbfcilhpaaGreatDoor
open Go.RowKit Go.Sort

theorem sortF_take (l : List F) (k : Nat) (h : k < l.length) : (l.take (k + 1)).foldl ins [] = ins ((l.take k).foldl ins []) l[k] := by
  rw [List.take_succ_eq_append_getElem h, List.foldl_append]; rfl
theorem sortF_all (l : List F) : (l.take l.length).foldl ins [] = sortF l := by rw [List.take_length]; unfold sortF; rfl

set_option maxHeartbeats 2000000 in
theorem refsorted_at (a : Option Addr) (cap : Nat) (xs : List Fv) (w : World) (hl : Lies w a cap xs) (hx : ∀ x ∈ xs, Fv.At w x) : Calls Tryz.prog 35 #[.slice a xs.length cap] w
    fun e w' => ∃ a' c' zs, e = .returned (.slice a' zs.length c') ∧ OwF w' w.heap.size a' c' zs ∧ (∀ z ∈ zs, z ∈ xs) ∧ zs.map Fv.f = sortF (xs.map Fv.f) ∧ Below w.heap.size w w' := by
  have few := hl.few
  have hW := fun (a : Option Addr) (c : Nat) (ys : List Fv) (x : Fv) (W : World) => with_at a c ys x W w.heap.size
  go_enter Tryz.func35, Tryz.ntmps35
  go_wp2_with fail
  go_loopw [3, 4] (fun v3 v4 wr => ∃ (k : Nat) (a' : Option Addr) (c' : Nat) (ys : List Fv), v3 = .slice a' ys.length c' ∧ v4 = .int .i64 (k : Int) ∧ k ≤ xs.length ∧ ys.length ≤ k ∧ OwF wr w.heap.size a' c' ys ∧ (∀ y ∈ ys, y ∈ xs) ∧ Hid (ys.map Fv.f = ((xs.map Fv.f).take k).foldl ins []) ∧ Below w.heap.size w wr) (fun _ v4 _ => xs.length - (intOf v4).toNat)
  case atStart => exact ⟨0, none, 0, [], rfl, rfl, by omega, Nat.le_refl _, OwF.nil _ _, fun _ h => by simp at h, rfl, Below.refl _ _⟩
  case round =>
    obtain ⟨k, a', c', ys, rfl, rfl, hk, hyl, hO, hin, hf, hb⟩ := hrel
    by_cases hlt : k < xs.length
    · have q2 : (k : Int) < (xs.length : Int) := by omega
      obtain ⟨P1, O1, rfl⟩ := hl.addr (Nat.lt_of_le_of_lt (Nat.zero_le _) hlt)
      obtain ⟨a1, a2, a3, a4⟩ := (hl.below hb (Nat.le_refl _)).get k hlt
      have hcall := hW a' c' ys (xs[k]'hlt) wr hO (fun y hy => (hx y (hin y hy)).below hb (Nat.le_refl _)) ((hx _ (List.getElem_mem hlt)).below hb (Nat.le_refl _)) (by omega) hb.size
      have hst : Hid (((xs.map Fv.f).take (k + 1)).foldl ins [] = ins (((xs.map Fv.f).take k).foldl ins []) (xs[k]'hlt).f) := by
        show _ = _
        rw [sortF_take _ k (by simpa using hlt), List.getElem_map]
      have hmem : Hid ((xs[k]'hlt) ∈ xs) := List.getElem_mem hlt
      generalize (xs[k]'hlt) = p at *
      go_wp2_with fail
      refine hcall.mono ?_
      rintro e w2 ⟨a2', c2', zs, rfl, hO2, hz, hzf, hzl, hb2⟩
      have Hzf := hideP hzf; clear hzf
      go_wp2_with fail
      refine ⟨⟨k + 1, a2', c2', zs, rfl, by simp, by omega, by omega, hO2, fun z hz' => ?_, ?_, Below.then hb hb2⟩, by simp [intOf]; omega⟩
      · rcases hz z hz' with h | rfl
        · exact hin z h
        · exact hmem.out
      · show _ = _
        rw [Hzf.out, hf.out, hst.out]
    · have q2 : ¬ (k : Int) < (xs.length : Int) := by omega
      have Hend : Hid (ys.map Fv.f = sortF (xs.map Fv.f)) := by
        show _ = _
        rw [hf.out, show k = (xs.map Fv.f).length by simp; omega]; exact sortF_all _
      go_wp2_with fail
      go_ret
      exact ⟨a', c', ys, rfl, hO, hin, Hend.out, hb⟩

end Go.Proofs.YtdehimbfcilhpaaGreatDoor
