/-
  The reference's from at a literal: fact by fact.
-/
import Derived.Test.YtdehimbfcilhpaaGreatDoorQFr12
import Derived.Deep.Cut
namespace Go.Proofs.YtdehimbfcilhpaaGreatDoor
open Go.RowKit Go.Lib Go.Shelf

/-- what from is asked at the k-th literal -/
def FrAt (w0 wf : World) (x : Rv) (q base M : Nat) (ha : Option Addr) (hc : Nat) (hs : List (List UInt8)) (na : Option Addr) (nc : Nat) (ns : List (List UInt8)) (fa : Option Addr) (fc : Nat) (zs : List Fv) (k : Nat) : Prop :=
  ∀ (w : World) (ea : Option Addr) (ec : Nat) (e : List Bd) (oa : Option Addr) (oc : Nat) (ys : List Fv) (c : Ml.Cn), Below w0.heap.size w0 w → But q wf w → base ≤ w.heap.size → Wq w q ha hc hs na nc ns c → c.Ok → Row bK w ea ec e → e.length ≤ 1 + k * 302 → OwF w base oa oc ys → EachK w ys → ys.length + Ml.cr ((x.body.drop k).map Lv.l) ≤ M + c.done →
    Calls Tryz.prog 29 #[ptr q, rval x, .int .i64 (k : Int), .slice fa zs.length fc, .slice ea e.length ec, .slice oa ys.length oc] w (FrAns w q base M ha hc hs na nc ns x.r (zs.map Fv.f) ((x.body.drop k).map Lv.l) e c ys)

set_option maxRecDepth 100000 in
set_option maxHeartbeats 4000000 in
theorem from_cons (w0 wf : World) (x : Rv) (q base M : Nat) (ha : Option Addr) (hc : Nat) (hs : List (List UInt8)) (na : Option Addr) (nc : Nat) (ns : List (List UInt8)) (fa : Option Addr) (fc : Nat) (zs : List Fv) (hi : FrIn w0 wf x q base M ha hc hs na nc ns fa fc zs) (k : Nat) (hkl : k < x.body.length) (IH : FrAt w0 wf x q base M ha hc hs na nc ns fa fc zs (k + 1)) : FrAt w0 wf x q base M ha hc hs na nc ns fa fc zs k := by
  intro w ea ec e oa oc ys c hb hbf hbase hq hc0 he hel ho hk hM
  have mixed : Tryz.prog.follows .mixedOrders = true := by kernel_rfl
  have iR : (Tryz.prog.info? 62).map (·.size) = some 11 := by kernel_rfl
  have A0 := below_alloc w (.cells #[str x.home.v, .bool x.home.k.num, .int .i64 x.home.k.n, str x.home.k.s, str x.pred, .slice x.a x.args.length x.cap, str x.to_.v, .bool x.to_.k.num, .int .i64 x.to_.k.n, str x.to_.k.s, .slice x.ba x.body.length x.bcap] 62)
  have h0 := heap_alloc_new w (.cells #[str x.home.v, .bool x.home.k.num, .int .i64 x.home.k.n, str x.home.k.s, str x.pred, .slice x.a x.args.length x.cap, str x.to_.v, .bool x.to_.k.num, .int .i64 x.to_.k.n, str x.to_.k.s, .slice x.ba x.body.length x.bcap] 62)
  have c10 := (rv_home5 (x := x) h0).2.2.2.2
  have hMM := hi.most
  have b300 := hi.sm.body
  have zl := hi.zl
  have q1 : ((k : Int) == (x.body.length : Int)) = false := by rw [beq_eq_false_iff_ne]; omega
  have hdr : (x.body.drop k).map Lv.l = (x.body[k]'hkl).l :: (x.body.drop (k + 1)).map Lv.l := by rw [List.drop_eq_getElem_cons hkl, List.map_cons]
  rw [hdr] at hM ⊢
  have hM0 : ys.length ≤ M + c.done := by simp only [Ml.cr] at hM; omega
  have HIH := hideP IH
  have HI := hideP hi
  have aY := hi.rule.each _ (List.getElem_mem hkl)
  have lY := hi.sm.each _ (List.getElem_mem hkl)
  have qw0 := hi.q0
  have qb := hi.qb
  have LR : Hid (∃ P1 O1, x.ba = some ⟨P1, O1, none⟩ ∧ ∀ W, Below w0.heap.size w0 W → W.rangeAt P1 (O1 + k * 10) (lv (x.body[k]'hkl))) := by
    obtain ⟨P1, O1, hP⟩ := hi.rule.body.addr (Nat.lt_of_le_of_lt (Nat.zero_le _) hkl)
    refine ⟨P1, O1, hP, fun W h => ?_⟩
    have h1 := hi.rule.body.below h (Nat.le_refl _)
    rw [hP] at h1
    exact h1.range k hkl
  clear hdr hM IH hi
  generalize (x.body[k]'hkl) = y at *
  generalize hls : (x.body.drop (k + 1)).map Lv.l = ls at *
  have HLS := hideP hls
  clear hls
  go_enter Tryz.func29, Tryz.ntmps29
  go_wp2_with fail
  have I0 : But q w (w.alloc (.cells #[str x.home.v, .bool x.home.k.num, .int .i64 x.home.k.n, str x.home.k.s, str x.pred, .slice x.a x.args.length x.cap, str x.to_.v, .bool x.to_.k.num, .int .i64 x.to_.k.n, str x.to_.k.s, .slice x.ba x.body.length x.bcap] 62)) := But.of_below A0
  have E0 := he.below A0 (Nat.le_refl _)
  generalize hW1 : w.alloc (.cells #[str x.home.v, .bool x.home.k.num, .int .i64 x.home.k.n, str x.home.k.s, str x.pred, .slice x.a x.args.length x.cap, str x.to_.v, .bool x.to_.k.num, .int .i64 x.to_.k.n, str x.to_.k.s, .slice x.ba x.body.length x.bcap] 62) = W1 at *
  go_loopw [5, 15] (fun v5 v15 wr => ∃ (i : Nat) (us : List Fv) (a2 : Option Addr) (m2 : Nat) (c2 : Ml.Cn), v5 = .slice a2 (List.length us) m2 ∧ v15 = .int .i64 (i : Int) ∧ i ≤ zs.length ∧ OwF wr base a2 m2 us ∧ EachK wr us ∧ Wq wr q ha hc hs na nc ns c2 ∧ c2.Ok ∧ us.length ≤ M + c2.done ∧ Hid (((zs.map Fv.f).take i).foldl (Ml.one x.r.home y.l e (Ml.frm ⟨hs, ns⟩ x.r (zs.map Fv.f) ls)) (c, ys.map Fv.f) = (c2, us.map Fv.f)) ∧ wr.heap[w.heap.size]? = some (.cells #[str x.home.v, .bool x.home.k.num, .int .i64 x.home.k.n, str x.home.k.s, str x.pred, .slice x.a x.args.length x.cap, str x.to_.v, .bool x.to_.k.num, .int .i64 x.to_.k.n, str x.to_.k.s, .slice x.ba x.body.length x.bcap] 62) ∧ Row bK wr ea ec e ∧ But q w wr) (fun _ v15 _ => zs.length - (intOf v15).toNat)
  case atStart =>
    exact ⟨0, ys, oa, oc, c, rfl, rfl, Nat.zero_le _, ho.below A0, hk.safe (Safe.below A0), hq.next A0, hc0, hM0, rfl, h0, E0, I0⟩
  case round =>
    obtain ⟨i, us, a2, m2, c2, rfl, rfl, hil, OF, EK, WQ, CO, LM, FO, HR, EV, BT⟩ := hrel
    clear h0 c10 A0 I0 E0 hq hc0 he ho hk hM0
    have BW0 : Below w0.heap.size w0 wr := hb.trans (BT.lower qw0 hb.size)
    have d2 : wr.cell? ⟨q, 2, none⟩ = some (.int .i64 (c2.done : Int)) := by rw [heap_cell WQ]; rfl
    have d3 : wr.cell? ⟨q, 3, none⟩ = some (.bool c2.heavy) := by rw [heap_cell WQ]; rfl
    have cm := CO.most
    by_cases hlt : i < zs.length
    · have q2 : (i : Int) < (zs.length : Int) := by omega
      cases hv : c2.heavy with
      | true =>
        rw [hv] at d3
        have FIN := hideP (fold_all FO.out (.inr hv))
        clear FO hv
        go_wp2_with fail
        go_ret
        exact ⟨⟨a2, m2, us, c2, rfl, OF, EK, WQ, FIN.out⟩, BT⟩
      | false =>
        rw [hv] at d3
        have cl := CO.light hv
        have FT := fold_take (home := x.r.home) (l := y.l) (e := e) (g := Ml.frm ⟨hs, ns⟩ x.r (zs.map Fv.f) ls) hlt (c, ys.map Fv.f)
        rw [FO.out] at FT
        have CB := CO.bump hv
        obtain ⟨P2, O2, rfl⟩ := (HI.out.facts w hbf).row.addr (Nat.lt_of_le_of_lt (Nat.zero_le _) hlt)
        have AZ : Hid (∀ W, But q wf W → Fv.At W (zs[i]'hlt)) := fun W h => (HI.out.facts W h).each _ (List.getElem_mem hlt)
        have FR : Hid (∀ W, But q wf W → W.rangeAt P2 (O2 + i * 4) (fv (zs[i]'hlt))) := fun W h => by
          have h1 := (HI.out.facts W h).row
          exact h1.range i hlt
        generalize (zs[i]'hlt) = z at *
        have HFT := hideP FT
        have HV := hideP hv
        have HCB := hideP CB
        have WQ1 : wr.heap[q]? = some (.cells #[.slice ha hs.length hc, .slice na ns.length nc, .int .i64 (c2.done : Int), .bool false] 31) := by rw [← hv]; exact WQ
        have HLM := hideP LM
        have HCO := hideP CO
        have HCL := hideP cl
        have HCM := hideP cm
        have HBB := hideP (And.intro hbase (And.intro hMM (And.intro b300 (And.intro lY (And.intro hel zl)))))
        clear FT FO hv CB LM CO cm hMM lY hel zl
        obtain ⟨dn, hdn⟩ : ∃ dn : Nat, dn = c2.done := ⟨_, rfl⟩
        rw [← hdn] at d2 WQ1 cl
        have HDN := hideP hdn
        have QN : Hid (w.heap.size ≠ q) := by show _ ≠ _; omega
        have cq : (dn : Int) ≤ 100000 := by omega
        clear hdn cl hbase b300
        go_upto_region 10 with (refine wpList_store_cel rfl 3 _ _ rfl q 2 4 31 (.int .i64 ((dn : Int) + 1)) #[.slice ha hs.length hc, .slice na ns.length nc, .int .i64 ((dn : Int) + 1), .bool false] rfl rfl WQ1 rfl (by decide) (by kernel_rfl) rfl rfl ?_; intro w1 N1 t1; have d4 : w1.cell? ⟨q, 2, none⟩ = some (.int .i64 ((dn : Int) + 1)) := (by rw [heap_cell N1]; rfl))
        generalize hg : (dn : Int) + 1 = v1 at *
        have HG := hideP hg
        clear hg cq
        by_cases hw : 60000 < dn + 1
        · have q5 : (60000 : Int) < v1 := by have := HG.out; omega
          have BUMP : Hid (Ml.bump c2 = ⟨dn + 1, true⟩) := by show _ = _; unfold Ml.bump; rw [← HDN.out, decide_eq_true hw, Bool.or_true]
          clear hw
          go_upto_region 12 with (refine wpList_store_cel rfl 4 _ _ rfl q 3 4 31 (.bool true) #[.slice ha hs.length hc, .slice na ns.length nc, .int .i64 v1, .bool true] rfl rfl N1 rfl (by decide) (by kernel_rfl) rfl rfl ?_; intro w3 N3 t3')
          have t3 := t1.trans t3'
          have WQ3 : Wq w3 q ha hc hs na nc ns (Ml.bump c2) := by rw [BUMP.out]; have h := N3; rw [← HG.out] at h; exact h
          clear N3 t3' N1 BUMP q5 t1 d4 d2 d3 WQ1
          have BT3 : But q w w3 := BT.trans t3
          have BW3 : Below w0.heap.size w0 w3 := hb.trans (BT3.lower qw0 hb.size)
          have HR3 := t3.heap QN.out HR
          have EV3 := EV.butQ WQ t3
          have OF3 := OF.butQ t3 qb
          have EK3 := EK.safe (t3.safe WQ (by decide))
          obtain ⟨P1, O1, hP, LR1⟩ := LR.out
          have K2 : ∀ W, Below w3.heap.size w3 W → (W.cell? ⟨w.heap.size, 0, none⟩ = some (str x.home.v) ∧ W.cell? ⟨w.heap.size, 1, none⟩ = some (.bool x.home.k.num) ∧ W.cell? ⟨w.heap.size, 2, none⟩ = some (.int .i64 x.home.k.n) ∧ W.cell? ⟨w.heap.size, 3, none⟩ = some (str x.home.k.s) ∧ W.cell? ⟨w.heap.size, 10, none⟩ = some (.slice (some ⟨P1, O1, none⟩) x.body.length x.bcap) ∧ W.cell? ⟨P1, O1 + k * 10, none⟩ = some (str y.by_.v) ∧ W.cell? ⟨P1, O1 + k * 10 + 1, none⟩ = some (.bool y.by_.k.num) ∧ W.cell? ⟨P1, O1 + k * 10 + 2, none⟩ = some (.int .i64 y.by_.k.n) ∧ W.cell? ⟨P1, O1 + k * 10 + 3, none⟩ = some (str y.by_.k.s) ∧ W.cell? ⟨P1, O1 + k * 10 + 4, none⟩ = some (str y.pred) ∧ W.cell? ⟨P1, O1 + k * 10 + 5, none⟩ = some (.slice y.a y.args.length y.cap) ∧ W.cell? ⟨P1, O1 + k * 10 + 6, none⟩ = some (str y.at_.v) ∧ W.cell? ⟨P1, O1 + k * 10 + 7, none⟩ = some (.bool y.at_.k.num) ∧ W.cell? ⟨P1, O1 + k * 10 + 8, none⟩ = some (.int .i64 y.at_.k.n) ∧ W.cell? ⟨P1, O1 + k * 10 + 9, none⟩ = some (str y.at_.k.s) ∧ W.cell? ⟨P2, O2 + i * 4, none⟩ = some (str z.at_) ∧ W.cell? ⟨P2, O2 + i * 4 + 1, none⟩ = some (str z.by_) ∧ W.cell? ⟨P2, O2 + i * 4 + 2, none⟩ = some (str z.pred) ∧ W.cell? ⟨P2, O2 + i * 4 + 3, none⟩ = some (.slice z.a z.ks.length z.cap)) := fun W h => by
            have hw0 := BW3.trans (h.mono BW3.size)
            obtain ⟨e0, e1, e2, e3, e10⟩ := rv_home5 (x := x) (below_heap h HR3)
            rw [hP] at e10
            obtain ⟨f0, f1, f2, f3, f4, f5, f6, f7, f8, f9⟩ := lv_in5 (LR1 W hw0)
            have rf := FR.out W ((hbf.trans BT3).below h)
            exact ⟨e0, e1, e2, e3, e10, f0, f1, f2, f3, f4, f5, f6, f7, f8, f9, rf 0 _ rfl, rf 1 _ rfl, rf 2 _ rfl, rf 3 _ rfl⟩
          have HK2 := hideP K2
          have GD := (Below.refl w3.heap.size w3).drew
          have TL := hideP (fun W (h : Below w3.heap.size w3 W) => rLiteral_at x.home y z ea ec e W (EV3.below h (Nat.le_refl _)) (by have := HBB.out; omega) (aY.below (B := w0.heap.size) (BW3.trans (h.mono BW3.size)) (Nat.le_refl _)) (AZ.out W ((hbf.trans BT3).below h)))
          have q6 : (k : Int) < (x.body.length : Int) := by omega
          have HP := hideP hP
          clear K2 LR1 t3 hP
          go_region_held3 (fun W => W.cell? ⟨w.heap.size, 0, none⟩ = some (str x.home.v) ∧ W.cell? ⟨w.heap.size, 1, none⟩ = some (.bool x.home.k.num) ∧ W.cell? ⟨w.heap.size, 2, none⟩ = some (.int .i64 x.home.k.n) ∧ W.cell? ⟨w.heap.size, 3, none⟩ = some (str x.home.k.s) ∧ W.cell? ⟨w.heap.size, 10, none⟩ = some (.slice (some ⟨P1, O1, none⟩) x.body.length x.bcap) ∧ W.cell? ⟨P1, O1 + k * 10, none⟩ = some (str y.by_.v) ∧ W.cell? ⟨P1, O1 + k * 10 + 1, none⟩ = some (.bool y.by_.k.num) ∧ W.cell? ⟨P1, O1 + k * 10 + 2, none⟩ = some (.int .i64 y.by_.k.n) ∧ W.cell? ⟨P1, O1 + k * 10 + 3, none⟩ = some (str y.by_.k.s) ∧ W.cell? ⟨P1, O1 + k * 10 + 4, none⟩ = some (str y.pred) ∧ W.cell? ⟨P1, O1 + k * 10 + 5, none⟩ = some (.slice y.a y.args.length y.cap) ∧ W.cell? ⟨P1, O1 + k * 10 + 6, none⟩ = some (str y.at_.v) ∧ W.cell? ⟨P1, O1 + k * 10 + 7, none⟩ = some (.bool y.at_.k.num) ∧ W.cell? ⟨P1, O1 + k * 10 + 8, none⟩ = some (.int .i64 y.at_.k.n) ∧ W.cell? ⟨P1, O1 + k * 10 + 9, none⟩ = some (str y.at_.k.s) ∧ W.cell? ⟨P2, O2 + i * 4, none⟩ = some (str z.at_) ∧ W.cell? ⟨P2, O2 + i * 4 + 1, none⟩ = some (str z.by_) ∧ W.cell? ⟨P2, O2 + i * 4 + 2, none⟩ = some (str z.pred) ∧ W.cell? ⟨P2, O2 + i * 4 + 3, none⟩ = some (.slice z.a z.ks.length z.cap)) (first | with_reducible exact HK2.out _ GD | with_reducible exact HK2.out _ G9) (first
            | (go_at_call 54; refine (TL.out _ GD).mono ?_; rintro e8 w9 ⟨⟨a9, c9, rfl, E9⟩, b9⟩; have G9 := Below.then GD b9))
          have T9 : But q w w9 := BT3.trans (But.of_below G9)
          have WQ9 := WQ3.next G9
          have HR9 := below_heap G9 HR3
          have EV9 := EV3.below G9 (Nat.le_refl _)
          have OF9 := OF3.below G9
          have EK9 := EK3.safe (Safe.below G9 : Safe 56 _ _)
          have zl2 : (zs.length : Int) ≤ 1000000 := by have := HBB.out; omega
          have kl2 : (x.body.length : Int) ≤ 300 := by have := HBB.out; omega
          have HR9' : w9.heap[w.heap.size]? = some (.cells (rv x).toArray 62) := HR9
          clear TL HK2 GD b9
          rcases lit_two x.home y.l z.f e with ⟨u1, u2, u3⟩ | ⟨e9, u1, u2, u3, u9⟩
          · rw [u3]
            have FO := hideP (HFT.out.trans (one_no HV.out u1))
            clear u1 u2 u3
            go_wp2_with fail
            exact ⟨⟨i + 1, us, a2, m2, Ml.bump c2, rfl, by go_num, by omega, OF9, EK9, WQ9, HCB.out, by have := HLM.out; show us.length ≤ M + (c2.done + 1); omega, FO, HR9, EV9, T9⟩, by simp [intOf]; omega⟩
          · rw [u3]
            rw [u2] at E9 ⊢
            have FO := HFT.out.trans (one_yes HV.out u1)
            have BW9 : Below w0.heap.size w0 w9 := hb.trans (T9.lower qw0 hb.size)
            have TIH := hideP (HIH.out w9 a9 c9 e9 a2 m2 us (Ml.bump c2) BW9 (hbf.trans T9) (by have := HBB.out.1; have := T9.size; omega) WQ9 HCB.out E9 (by have := HBB.out; have h9 : e9.length ≤ e.length + (y.args.length + 2) := u9; rw [Nat.succ_mul]; omega) OF9 EK9 (by have h1 := HLM.out; have h2 := Ml.cr_le ((x.body.drop (k + 1)).map Lv.l); show us.length + _ ≤ M + (c2.done + 1); omega))
            rw [HLS.out, show ((k + 1 : Nat) : Int) = (k : Int) + 1 from rfl] at TIH
            have HFO := hideP FO
            clear u1 u2 u3 u9 FO
            go_wp2_with (refine wpList_load_all rfl 62 _ rfl w.heap.size 11 62 (rv x) _ rfl (by with_reducible exact HR9') rfl Tryz.underlying62 rfl iR ?_)
            refine TIH.out.mono ?_
            rintro e10 w10 ⟨⟨a10, m10, us10, c10, rfl, OF10, EK10, WQ10, F10⟩, BT10⟩
            have HR10 := BT10.heap QN.out HR9
            have EV10 := EV9.butQ WQ9 BT10
            have T10 := T9.trans BT10
            have CO10 : c10.Ok := by
              have h := Ml.frm_ok (w := ⟨hs, ns⟩) (r := x.r) (m := zs.map Fv.f) ls e9 (st := (Ml.bump c2, us.map Fv.f)) HCB.out
              rw [F10] at h; exact h
            have LM10 : us10.length ≤ M + c10.done := by
              have h := Ml.frm_len (w := ⟨hs, ns⟩) (r := x.r) (m := zs.map Fv.f) ls e9 (Ml.bump c2, us.map Fv.f)
              rw [F10] at h
              have h1 := HLM.out
              have h2 := Ml.cr_le ls
              simp only [List.length_map, Ml.bump] at h
              omega
            have FO10 := hideP (HFO.out.trans F10)
            have H10 := hideP (And.intro CO10 LM10)
            clear CO10 LM10 F10 TIH
            go_wp2_with fail
            exact ⟨⟨i + 1, us10, a10, m10, c10, rfl, by go_num, by omega, OF10, EK10, WQ10, H10.out.1, H10.out.2, FO10, HR10, EV10, T10⟩, by simp [intOf]; omega⟩
        · have q5 : ¬ (60000 : Int) < v1 := by have := HG.out; omega
          have BUMP : Hid (Ml.bump c2 = ⟨dn + 1, false⟩) := by show _ = _; unfold Ml.bump; rw [← HDN.out, decide_eq_false hw, Bool.or_false, HV.out]
          clear hw
          go_upto_region 12 with fail
          have t3 := t1
          have WQ3 : Wq w1 q ha hc hs na nc ns (Ml.bump c2) := by rw [BUMP.out]; have h := N1; rw [← HG.out] at h; exact h
          clear N1 BUMP q5 t1 d4 d2 d3 WQ1
          have BT3 : But q w w1 := BT.trans t3
          have BW3 : Below w0.heap.size w0 w1 := hb.trans (BT3.lower qw0 hb.size)
          have HR3 := t3.heap QN.out HR
          have EV3 := EV.butQ WQ t3
          have OF3 := OF.butQ t3 qb
          have EK3 := EK.safe (t3.safe WQ (by decide))
          obtain ⟨P1, O1, hP, LR1⟩ := LR.out
          have K2 : ∀ W, Below w1.heap.size w1 W → (W.cell? ⟨w.heap.size, 0, none⟩ = some (str x.home.v) ∧ W.cell? ⟨w.heap.size, 1, none⟩ = some (.bool x.home.k.num) ∧ W.cell? ⟨w.heap.size, 2, none⟩ = some (.int .i64 x.home.k.n) ∧ W.cell? ⟨w.heap.size, 3, none⟩ = some (str x.home.k.s) ∧ W.cell? ⟨w.heap.size, 10, none⟩ = some (.slice (some ⟨P1, O1, none⟩) x.body.length x.bcap) ∧ W.cell? ⟨P1, O1 + k * 10, none⟩ = some (str y.by_.v) ∧ W.cell? ⟨P1, O1 + k * 10 + 1, none⟩ = some (.bool y.by_.k.num) ∧ W.cell? ⟨P1, O1 + k * 10 + 2, none⟩ = some (.int .i64 y.by_.k.n) ∧ W.cell? ⟨P1, O1 + k * 10 + 3, none⟩ = some (str y.by_.k.s) ∧ W.cell? ⟨P1, O1 + k * 10 + 4, none⟩ = some (str y.pred) ∧ W.cell? ⟨P1, O1 + k * 10 + 5, none⟩ = some (.slice y.a y.args.length y.cap) ∧ W.cell? ⟨P1, O1 + k * 10 + 6, none⟩ = some (str y.at_.v) ∧ W.cell? ⟨P1, O1 + k * 10 + 7, none⟩ = some (.bool y.at_.k.num) ∧ W.cell? ⟨P1, O1 + k * 10 + 8, none⟩ = some (.int .i64 y.at_.k.n) ∧ W.cell? ⟨P1, O1 + k * 10 + 9, none⟩ = some (str y.at_.k.s) ∧ W.cell? ⟨P2, O2 + i * 4, none⟩ = some (str z.at_) ∧ W.cell? ⟨P2, O2 + i * 4 + 1, none⟩ = some (str z.by_) ∧ W.cell? ⟨P2, O2 + i * 4 + 2, none⟩ = some (str z.pred) ∧ W.cell? ⟨P2, O2 + i * 4 + 3, none⟩ = some (.slice z.a z.ks.length z.cap)) := fun W h => by
            have hw0 := BW3.trans (h.mono BW3.size)
            obtain ⟨e0, e1, e2, e3, e10⟩ := rv_home5 (x := x) (below_heap h HR3)
            rw [hP] at e10
            obtain ⟨f0, f1, f2, f3, f4, f5, f6, f7, f8, f9⟩ := lv_in5 (LR1 W hw0)
            have rf := FR.out W ((hbf.trans BT3).below h)
            exact ⟨e0, e1, e2, e3, e10, f0, f1, f2, f3, f4, f5, f6, f7, f8, f9, rf 0 _ rfl, rf 1 _ rfl, rf 2 _ rfl, rf 3 _ rfl⟩
          have HK2 := hideP K2
          have GD := (Below.refl w1.heap.size w1).drew
          have TL := hideP (fun W (h : Below w1.heap.size w1 W) => rLiteral_at x.home y z ea ec e W (EV3.below h (Nat.le_refl _)) (by have := HBB.out; omega) (aY.below (B := w0.heap.size) (BW3.trans (h.mono BW3.size)) (Nat.le_refl _)) (AZ.out W ((hbf.trans BT3).below h)))
          have q6 : (k : Int) < (x.body.length : Int) := by omega
          have HP := hideP hP
          clear K2 LR1 t3 hP
          go_region_held3 (fun W => W.cell? ⟨w.heap.size, 0, none⟩ = some (str x.home.v) ∧ W.cell? ⟨w.heap.size, 1, none⟩ = some (.bool x.home.k.num) ∧ W.cell? ⟨w.heap.size, 2, none⟩ = some (.int .i64 x.home.k.n) ∧ W.cell? ⟨w.heap.size, 3, none⟩ = some (str x.home.k.s) ∧ W.cell? ⟨w.heap.size, 10, none⟩ = some (.slice (some ⟨P1, O1, none⟩) x.body.length x.bcap) ∧ W.cell? ⟨P1, O1 + k * 10, none⟩ = some (str y.by_.v) ∧ W.cell? ⟨P1, O1 + k * 10 + 1, none⟩ = some (.bool y.by_.k.num) ∧ W.cell? ⟨P1, O1 + k * 10 + 2, none⟩ = some (.int .i64 y.by_.k.n) ∧ W.cell? ⟨P1, O1 + k * 10 + 3, none⟩ = some (str y.by_.k.s) ∧ W.cell? ⟨P1, O1 + k * 10 + 4, none⟩ = some (str y.pred) ∧ W.cell? ⟨P1, O1 + k * 10 + 5, none⟩ = some (.slice y.a y.args.length y.cap) ∧ W.cell? ⟨P1, O1 + k * 10 + 6, none⟩ = some (str y.at_.v) ∧ W.cell? ⟨P1, O1 + k * 10 + 7, none⟩ = some (.bool y.at_.k.num) ∧ W.cell? ⟨P1, O1 + k * 10 + 8, none⟩ = some (.int .i64 y.at_.k.n) ∧ W.cell? ⟨P1, O1 + k * 10 + 9, none⟩ = some (str y.at_.k.s) ∧ W.cell? ⟨P2, O2 + i * 4, none⟩ = some (str z.at_) ∧ W.cell? ⟨P2, O2 + i * 4 + 1, none⟩ = some (str z.by_) ∧ W.cell? ⟨P2, O2 + i * 4 + 2, none⟩ = some (str z.pred) ∧ W.cell? ⟨P2, O2 + i * 4 + 3, none⟩ = some (.slice z.a z.ks.length z.cap)) (first | with_reducible exact HK2.out _ GD | with_reducible exact HK2.out _ G9) (first
            | (go_at_call 54; refine (TL.out _ GD).mono ?_; rintro e8 w9 ⟨⟨a9, c9, rfl, E9⟩, b9⟩; have G9 := Below.then GD b9))
          have T9 : But q w w9 := BT3.trans (But.of_below G9)
          have WQ9 := WQ3.next G9
          have HR9 := below_heap G9 HR3
          have EV9 := EV3.below G9 (Nat.le_refl _)
          have OF9 := OF3.below G9
          have EK9 := EK3.safe (Safe.below G9 : Safe 56 _ _)
          have zl2 : (zs.length : Int) ≤ 1000000 := by have := HBB.out; omega
          have kl2 : (x.body.length : Int) ≤ 300 := by have := HBB.out; omega
          have HR9' : w9.heap[w.heap.size]? = some (.cells (rv x).toArray 62) := HR9
          clear TL HK2 GD b9
          rcases lit_two x.home y.l z.f e with ⟨u1, u2, u3⟩ | ⟨e9, u1, u2, u3, u9⟩
          · rw [u3]
            have FO := hideP (HFT.out.trans (one_no HV.out u1))
            clear u1 u2 u3
            go_wp2_with fail
            exact ⟨⟨i + 1, us, a2, m2, Ml.bump c2, rfl, by go_num, by omega, OF9, EK9, WQ9, HCB.out, by have := HLM.out; show us.length ≤ M + (c2.done + 1); omega, FO, HR9, EV9, T9⟩, by simp [intOf]; omega⟩
          · rw [u3]
            rw [u2] at E9 ⊢
            have FO := HFT.out.trans (one_yes HV.out u1)
            have BW9 : Below w0.heap.size w0 w9 := hb.trans (T9.lower qw0 hb.size)
            have TIH := hideP (HIH.out w9 a9 c9 e9 a2 m2 us (Ml.bump c2) BW9 (hbf.trans T9) (by have := HBB.out.1; have := T9.size; omega) WQ9 HCB.out E9 (by have := HBB.out; have h9 : e9.length ≤ e.length + (y.args.length + 2) := u9; rw [Nat.succ_mul]; omega) OF9 EK9 (by have h1 := HLM.out; have h2 := Ml.cr_le ((x.body.drop (k + 1)).map Lv.l); show us.length + _ ≤ M + (c2.done + 1); omega))
            rw [HLS.out, show ((k + 1 : Nat) : Int) = (k : Int) + 1 from rfl] at TIH
            have HFO := hideP FO
            clear u1 u2 u3 u9 FO
            go_wp2_with (refine wpList_load_all rfl 62 _ rfl w.heap.size 11 62 (rv x) _ rfl (by with_reducible exact HR9') rfl Tryz.underlying62 rfl iR ?_)
            refine TIH.out.mono ?_
            rintro e10 w10 ⟨⟨a10, m10, us10, c10, rfl, OF10, EK10, WQ10, F10⟩, BT10⟩
            have HR10 := BT10.heap QN.out HR9
            have EV10 := EV9.butQ WQ9 BT10
            have T10 := T9.trans BT10
            have CO10 : c10.Ok := by
              have h := Ml.frm_ok (w := ⟨hs, ns⟩) (r := x.r) (m := zs.map Fv.f) ls e9 (st := (Ml.bump c2, us.map Fv.f)) HCB.out
              rw [F10] at h; exact h
            have LM10 : us10.length ≤ M + c10.done := by
              have h := Ml.frm_len (w := ⟨hs, ns⟩) (r := x.r) (m := zs.map Fv.f) ls e9 (Ml.bump c2, us.map Fv.f)
              rw [F10] at h
              have h1 := HLM.out
              have h2 := Ml.cr_le ls
              simp only [List.length_map, Ml.bump] at h
              omega
            have FO10 := hideP (HFO.out.trans F10)
            have H10 := hideP (And.intro CO10 LM10)
            clear CO10 LM10 F10 TIH
            go_wp2_with fail
            exact ⟨⟨i + 1, us10, a10, m10, c10, rfl, by go_num, by omega, OF10, EK10, WQ10, H10.out.1, H10.out.2, FO10, HR10, EV10, T10⟩, by simp [intOf]; omega⟩
    · have q2 : ¬ (i : Int) < (zs.length : Int) := by omega
      have FIN := hideP (fold_all FO.out (.inl (by rw [List.length_map]; omega)))
      clear FO
      go_wp2_with fail
      go_ret
      exact ⟨⟨a2, m2, us, c2, rfl, OF, EK, WQ, FIN.out⟩, BT⟩
end Go.Proofs.YtdehimbfcilhpaaGreatDoor
