/-
  The program's Body.
-/
import Derived.Test.YtbahbibibpkddaaE9
namespace Go.Proofs.Ytbahbibibpkddaa
open Go.RowKit Go.Lib Go.Shelf

theorem Try.iFk : (Try.prog.info? 40).map (fun i => (i.zero, i.size, i.bytes)) = some (some (.agg #[.string .empty, .string .empty, .string .empty, .slice none 0 0]), fK.k, 72) := by kernel_rfl
theorem Try.iF4 : (Try.prog.info? 40).map (fun i => (i.zero, i.size, i.bytes)) = some (some (.agg #[.string .empty, .string .empty, .string .empty, .slice none 0 0]), 4, 72) := by kernel_rfl
/-- facts in a row of the call's own -/
def OwnF (base : Nat) (w : World) (v : Value) (zs : List Fv) : Prop := w.ownsRow base 40 fK.k v zs.length (zs.flatMap fK.enc)
theorem OwnF.max {base : Nat} {w : World} {a : Option Addr} {n c : Nat} {zs : List Fv} (h : OwnF base w (.slice a n c) zs) : c ≤ maxLen := by
  rcases h.2 with ⟨hv, _⟩ | ⟨g, cap, cur, hv, _, _, _, hm, _⟩
  · cases hv; exact Nat.zero_le _
  · cases hv; exact hm
/-- each fact's constants lie in a block of constants -/
def EachK (w : World) (zs : List Fv) : Prop := ∀ z ∈ zs, RowT kK 23 w z.a z.cap z.ks
theorem EachK.safe {w w' : World} {zs : List Fv} (h : EachK w zs) (s : Safe 23 w w') : EachK w' zs := fun z hz => (h z hz).safe s
/-- facts and yes, or none and no -/
def BodyAns (e : Ending) (w : World) (o : Option (List F)) : Prop := ∃ a c zs, e = .returned (.tuple #[.slice a (List.length zs) c, .bool o.isSome]) ∧ Row fK w a c zs ∧ Tag 40 w a ∧ c ≤ maxLen ∧ EachK w zs ∧ zs.map Fv.f = o.getD []
theorem BodyAns.no {w : World} {o : Option (List F)} (h : o = none) : BodyAns (.returned (.tuple #[.slice none 0 0, .bool false])) w o := ⟨none, 0, [], by rw [h]; rfl, Row.nil _ _, (fun _ h => by cases h), Nat.zero_le _, (fun _ h => by simp at h), by rw [h]; rfl⟩
theorem lv_six {w : World} {b : Nat} {y : Lv} (H : w.heap[b]? = some (.cells (lv y).toArray 45)) :
    w.cell? ⟨b, 0, none⟩ = some (str y.by_.v) ∧ w.cell? ⟨b, 1, none⟩ = some (.bool y.by_.k.num) ∧ w.cell? ⟨b, 2, none⟩ = some (.int .i64 y.by_.k.n) ∧ w.cell? ⟨b, 3, none⟩ = some (str y.by_.k.s) ∧ w.cell? ⟨b, 4, none⟩ = some (str y.pred) ∧ w.cell? ⟨b, 5, none⟩ = some (.slice y.a y.args.length y.cap) := by
  refine ⟨?_, ?_, ?_, ?_, ?_, ?_⟩ <;> (rw [heap_cell H]; rfl)
theorem bx_ten {w : World} {b c : Nat} {t : Tm} {y : Lv} (h : w.heap[b]? = some (.cells (tv t).toArray 25)) (H : w.heap[c]? = some (.cells (lv y).toArray 45)) :
    w.cell? ⟨b, 0, none⟩ = some (str t.v) ∧ w.cell? ⟨b, 1, none⟩ = some (.bool t.k.num) ∧ w.cell? ⟨b, 2, none⟩ = some (.int .i64 t.k.n) ∧ w.cell? ⟨b, 3, none⟩ = some (str t.k.s) ∧
    w.cell? ⟨c, 0, none⟩ = some (str y.by_.v) ∧ w.cell? ⟨c, 1, none⟩ = some (.bool y.by_.k.num) ∧ w.cell? ⟨c, 2, none⟩ = some (.int .i64 y.by_.k.n) ∧ w.cell? ⟨c, 3, none⟩ = some (str y.by_.k.s) ∧ w.cell? ⟨c, 4, none⟩ = some (str y.pred) ∧ w.cell? ⟨c, 5, none⟩ = some (.slice y.a y.args.length y.cap) := by
  obtain ⟨c1, c2, c3, c4⟩ := tv_cells h
  obtain ⟨d1, d2, d3, d4, d5, d6⟩ := lv_six H
  exact ⟨c1, c2, c3, c4, d1, d2, d3, d4, d5, d6⟩
theorem drew_new (w : World) (o : Obj) : (w.alloc o).drew.heap[w.heap.size]? = some o := heap_alloc_new w o
theorem drew_old {w : World} {o p : Obj} {k : Nat} (h : w.heap[k]? = some p) : (w.alloc o).drew.heap[k]? = some p := by
  have : (w.alloc o).heap[k]? = some p := below_heap (below_alloc w o) h
  exact this
theorem alloc_new_below (w : World) (o : Obj) {w' : World} (h : Below (w.heap.size + 1) (w.alloc o) w') : w'.heap[w.heap.size]? = some o := (h.block _ (Nat.lt_succ_self _)).trans (heap_alloc_new w o)
theorem fact_two {o : Option F} {z : Fv} (hz : z.f = o.getD f0) : (o = none ∧ o.isSome = false) ∨ (o = some z.f ∧ o.isSome = true) := by
  cases o with
  | none => exact .inl ⟨rfl, rfl⟩
  | some f => exact .inr ⟨by rw [hz]; rfl, rfl⟩

set_option maxRecDepth 100000 in
set_option maxHeartbeats 2000000 in
theorem mBody_at (x : Rv) (a : Option Addr) (c : Nat) (L : List Bd) (w : World) (hr : Rv.Aw w x) (h : Row bK w a c L) (hf : x.body.length ≤ 900000) (hg : ∀ y ∈ x.body, y.args.length ≤ 900000) :
    Calls Try.prog 20 #[rval x, .slice a L.length c] w fun e w' => BodyAns e w' (Mt.body x.home L x.r.body) ∧ Below w.heap.size w w' := by
  have iF : (Try.prog.info? 40).map (·.size) = some 4 := by kernel_rfl
  have iT : (Try.prog.info? 25).map (·.size) = some 4 := by kernel_rfl
  have iL : (Try.prog.info? 45).map (·.size) = some 10 := by kernel_rfl
  have A0 := below_alloc w (.cells #[str x.home.v, .bool x.home.k.num, .int .i64 x.home.k.n, str x.home.k.s, str x.pred, .slice x.a x.args.length x.cap, str x.to_.v, .bool x.to_.k.num, .int .i64 x.to_.k.n, str x.to_.k.s, .slice x.ba x.body.length x.bcap] 37)
  have h0 : (w.alloc (.cells #[str x.home.v, .bool x.home.k.num, .int .i64 x.home.k.n, str x.home.k.s, str x.pred, .slice x.a x.args.length x.cap, str x.to_.v, .bool x.to_.k.num, .int .i64 x.to_.k.n, str x.to_.k.s, .slice x.ba x.body.length x.bcap] 37)).heap[w.heap.size]? = some (.cells (rv x).toArray 37) := heap_alloc_new w _
  have hrl : x.r.body.length = x.body.length := List.length_map ..
  go_enter Try.func20, Try.ntmps20
  go_wp2_with fail
  generalize hW : w.alloc (.cells #[str x.home.v, .bool x.home.k.num, .int .i64 x.home.k.n, str x.home.k.s, str x.pred, .slice x.a x.args.length x.cap, str x.to_.v, .bool x.to_.k.num, .int .i64 x.to_.k.n, str x.to_.k.s, .slice x.ba x.body.length x.bcap] 37) = W at *
  clear hW
  have nW := heap_lt h0
  rcases Nat.eq_zero_or_pos x.body.length with hz | hpos
  · have hbn : x.body = [] := List.eq_nil_of_length_eq_zero hz
    have z1 : Hid (Mt.body x.home L x.r.body = some []) := by
      show _ = _
      rw [show x.r.body = [] by simp [Rv.r, hbn]]; rfl
    have q3 : ¬ (0 : Int) < (x.body.length : Int) := by omega
    clear hbn hz
    go_loopw [6, 8, 9, 10, 11, 15] (fun v6 _ _ _ _ v15 wr => v6 = .slice none 0 0 ∧ v15 = .int .i64 0 ∧ W = wr) (fun _ _ _ _ _ _ _ => 0)
    case atStart => exact ⟨rfl, rfl, rfl⟩
    case round =>
      obtain ⟨rfl, rfl, rfl⟩ := hrel
      go_wp2_with fail
      go_ret2
      exact ⟨⟨none, 0, [], by rw [z1.out]; rfl, Row.nil _ _, (fun _ h => by cases h), Nat.zero_le _, (fun _ h => by simp at h), by rw [z1.out]; rfl⟩, A0⟩
  · obtain ⟨P1, O1, hP⟩ := hr.body.addr hpos
    rw [hP]
    have HP := hideP hP
    clear hP
    go_loopw [6, 8, 9, 10, 11, 15] (fun v6 _ _ _ _ v15 wr => ∃ (i : Nat) (zs : List Fv) (u : Option Addr) (cu : Nat), v6 = .slice u (List.length zs) cu ∧ v15 = .int .i64 (i : Int) ∧ i ≤ x.body.length ∧ Hid (zs.length = i) ∧ wr.heap[w.heap.size]? = some (.cells (rv x).toArray 37) ∧ OwnF W.heap.size wr (.slice u (List.length zs) cu) zs ∧ EachK wr zs ∧ Below w.heap.size w wr ∧ W.heap.size ≤ wr.heap.size ∧ Hid (Mt.body x.home L x.r.body = (Mt.body x.home L (x.r.body.drop i)).map fun cs => zs.map Fv.f ++ cs)) (fun _ _ _ _ _ v15 _ => x.body.length - (intOf v15).toNat)
    case atStart => exact ⟨0, [], none, 0, rfl, rfl, Nat.zero_le _, rfl, h0, World.ownsRow_nil _ _ _ _, (fun _ h => by simp at h), A0, Nat.le_refl _, by show _ = _; rw [List.drop_zero]; cases Mt.body x.home L x.r.body <;> simp⟩
    case round =>
      obtain ⟨i, zs, u, cu, rfl, rfl, hi, hk, HR, OF, EK, B, sr, HV⟩ := hrel
      by_cases hlt : i < x.body.length
      · have q3 : (i : Int) < (x.body.length : Int) := by omega
        have hB := hr.body.below B (Nat.le_refl _)
        rw [HP.out] at hB
        have r1 : wr.rangeAt P1 (O1 + i * 10) (lv (x.body[i]'hlt)) := hB.range i hlt
        have aY := hr.each _ (List.getElem_mem hlt)
        have lY := hg _ (List.getElem_mem hlt)
        have ST := HV.out
        rw [Mt.body_step (by omega), show x.r.body[i]'(by omega) = (x.body[i]'hlt).l by simp [Rv.r]] at ST
        have HST := hideP ST
        clear ST HV hB
        generalize (x.body[i]'hlt) = y at *
        have HBF : Hid (Mt.bodyF x.home y.l L = Mt.fact (Mt.place x.home y.at_) (Mt.place (Mt.place x.home y.at_) y.by_) y.pred y.args L) := rfl
        have iQ : (Try.prog.info? 45).map (·.size) = some (lv y).length := iL
        have N4 := heap_alloc_new wr (.cells #[.string { data := #[] }, .bool false, .int .i64 0, .string { data := #[] }, .string { data := #[] }, .slice none 0 0, .string { data := #[] }, .bool false, .int .i64 0, .string { data := #[] }] 45)
        have TE := hideP (fun W => meither_at y.at_ x.home W)
        generalize Mt.place x.home y.at_ = aT at *
        go_wp2_with (first | (refine wpList_load_mid rfl 45 _ rfl P1 (O1 + i * 10) rfl (lv y) _ r1 Try.underlying45 rfl iQ ?_) | (refine wpList_store_all rfl 45 _ _ rfl wr.heap.size 10 _ 45 (lv y) rfl rfl N4 rfl rfl iL rfl ?_; intro w4 H4 b4; have T4 := below_tok b4; have r4 := (lit_parts10 H4).2.1; have HR4 := below_heap T4 HR; have r5 := (rule_parts10 HR4).1) | (refine wpList_load_mid rfl 25 _ rfl wr.heap.size 6 rfl (tv y.at_) _ r4 Try.underlying25 rfl iT ?_) | (refine wpList_load_mid rfl 25 _ rfl w.heap.size 0 rfl (tv x.home) _ r5 Try.underlying25 rfl iT ?_))
        refine (TE.out w4).mono ?_
        rintro e w5 ⟨rfl, b5⟩
        have T5 := Below.then T4 b5
        have H5 := below_heap b5 H4
        have HR5 := below_heap b5 HR4
        clear r4 r5 r1 N4 H4 HR4 T4 b4 b5 TE
        have N6 := heap_alloc_new w5 (.cells #[.string { data := #[] }, .bool false, .int .i64 0, .string { data := #[] }] 25)
        go_wp2_with (refine wpList_store_all rfl 25 _ _ rfl w5.heap.size 4 _ 25 (tv aT) rfl rfl N6 rfl rfl iT rfl ?_; intro w6 H6 b6; have T6a := below_tok b6)
        have T6 := Below.then T5 T6a
        have G6 := below_heap T6a H5
        have HR6 := below_heap T6a HR5
        generalize hRl : wr.heap.size = Rl at *
        generalize hRa : w5.heap.size = Ra at *
        have T6' : Below wr.heap.size wr w6 := by rw [hRl]; exact T6
        have sr2 : W.heap.size ≤ wr.heap.size := by rw [hRl]; exact sr
        clear hRa N6 b6 T6a T5 H5 HR5 T6
        have n01 := heap_lt H6
        have n02 := heap_lt G6
        have gD := (Below.refl w6.heap.size w6).drew
        have H6d := below_heap gD H6
        have G6d := below_heap gD G6
        have TD := Below.then T6' gD
        have BD := Below.then B TD
        have TB := hideP (fun W => meither_at y.by_ aT W)
        generalize Mt.place aT y.by_ = bT at *
        have TS := hideP (fun W hW => msaid_at aT bT y.pred y.a y.cap y.args a c L W (Row.below (B := w.heap.size) (show Row tK w y.a y.cap y.args from aY) hW (Nat.le_refl _)) (h.below hW (Nat.le_refl _)) lY)
        rw [HBF.out] at HST
        clear hRl HBF
        generalize hFF : Mt.fact aT bT y.pred y.args L = FF at *
        clear hFF
        go_region_held3 (fun W => W.cell? ⟨Ra, 0, none⟩ = some (str aT.v) ∧ W.cell? ⟨Ra, 1, none⟩ = some (.bool aT.k.num) ∧ W.cell? ⟨Ra, 2, none⟩ = some (.int .i64 aT.k.n) ∧ W.cell? ⟨Ra, 3, none⟩ = some (str aT.k.s) ∧ W.cell? ⟨Rl, 0, none⟩ = some (str y.by_.v) ∧ W.cell? ⟨Rl, 1, none⟩ = some (.bool y.by_.k.num) ∧ W.cell? ⟨Rl, 2, none⟩ = some (.int .i64 y.by_.k.n) ∧ W.cell? ⟨Rl, 3, none⟩ = some (str y.by_.k.s) ∧ W.cell? ⟨Rl, 4, none⟩ = some (str y.pred) ∧ W.cell? ⟨Rl, 5, none⟩ = some (.slice y.a y.args.length y.cap)) (first | with_reducible exact bx_ten H6d G6d | with_reducible exact bx_ten H7 G7 | with_reducible exact bx_ten H8 G8 | with_reducible exact bx_ten (drew_old H6) (drew_old G6) | with_reducible exact bx_ten (below_heap (below_alloc _ _) H7) (below_heap (below_alloc _ _) G7) | with_reducible exact bx_ten (below_heap (below_alloc _ _) H8) (below_heap (below_alloc _ _) G8) | exact bx_ten ((set4_but _ _ _ _).heap (by omega) H8) ((set4_but _ _ _ _).heap (by omega) G8) | exact bx_ten ((set4_but _ _ _ _).heap (by omega) (below_heap (below_alloc _ _) H8)) ((set4_but _ _ _ _).heap (by omega) (below_heap (below_alloc _ _) G8))) (first
          | (go_at_call 40; refine (TB.out _).mono ?_; rintro e w7 ⟨rfl, b7⟩; have M7 : Below w6.drew.heap.size w6.drew w7 := (by first | with_reducible exact b7 | exact Below.then (below_alloc _ _) b7); have H7 := below_heap M7 H6d; have G7 := below_heap M7 G6d; have B7 := Below.then BD M7; (try (have Z7 : w7.heap[w6.heap.size]? = some (.cells #[.string { data := #[] }, .string { data := #[] }, .string { data := #[] }, .slice none 0 0] 40) := (by with_reducible exact below_heap b7 (drew_new w6 (.cells #[.string { data := #[] }, .string { data := #[] }, .string { data := #[] }, .slice none 0 0] 40))))))
          | (go_at_call 39; refine Calls.mono (TS.out _ (by first | with_reducible exact B7 | exact Below.then B7 (below_alloc _ _))) ?_; rintro e w8 ⟨⟨z, rfl, Rz, hz⟩, b8⟩; have M8 : Below w7.heap.size w7 w8 := (by first | with_reducible exact b8 | exact Below.then (below_alloc _ _) b8); have H8 := below_heap M8 H7; have G8 := below_heap M8 G7; have n1 := heap_lt H8; have n2 := heap_lt G8; have n3 := heap_lt H7; have n4 := heap_lt G7; (try (have Z8 := below_heap M8 Z7; have qZ80 : w8.cell? ⟨w6.heap.size, 0, none⟩ = some (.string { data := #[] }) := (by rw [heap_cell Z8]; rfl); have qZ81 : w8.cell? ⟨w6.heap.size, 1, none⟩ = some (.string { data := #[] }) := (by rw [heap_cell Z8]; rfl); have qZ82 : w8.cell? ⟨w6.heap.size, 2, none⟩ = some (.string { data := #[] }) := (by rw [heap_cell Z8]; rfl); have qZ83 : w8.cell? ⟨w6.heap.size, 3, none⟩ = some (.slice none 0 0) := (by rw [heap_cell Z8]; rfl); have fZ8 : ∀ j, w8.frozen? ⟨w6.heap.size, j, none⟩ = false := heap_frozen Z8)); (try (have Z9 : w8.heap[w7.heap.size]? = some (.cells #[.string { data := #[] }, .string { data := #[] }, .string { data := #[] }, .slice none 0 0] 40) := (by with_reducible exact below_heap b8 (heap_alloc_new w7 (.cells #[.string { data := #[] }, .string { data := #[] }, .string { data := #[] }, .slice none 0 0] 40))); have qZ90 : w8.cell? ⟨w7.heap.size, 0, none⟩ = some (.string { data := #[] }) := (by rw [heap_cell Z9]; rfl); have qZ91 : w8.cell? ⟨w7.heap.size, 1, none⟩ = some (.string { data := #[] }) := (by rw [heap_cell Z9]; rfl); have qZ92 : w8.cell? ⟨w7.heap.size, 2, none⟩ = some (.string { data := #[] }) := (by rw [heap_cell Z9]; rfl); have qZ93 : w8.cell? ⟨w7.heap.size, 3, none⟩ = some (.slice none 0 0) := (by rw [heap_cell Z9]; rfl); have fZ9 : ∀ j, w8.frozen? ⟨w7.heap.size, j, none⟩ = false := heap_frozen Z9))))
        · have T8 := Below.then (Below.then TD M7) M8
          have A8 := below_alloc w8 (.cells #[.string { data := z.at_.toArray }, .string { data := z.by_.toArray }, .string { data := z.pred.toArray }, .slice z.a z.ks.length z.cap] 40)
          have HZ : (w8.alloc (.cells #[.string { data := z.at_.toArray }, .string { data := z.by_.toArray }, .string { data := z.pred.toArray }, .slice z.a z.ks.length z.cap] 40)).heap[w8.heap.size]? = some (.cells (fv z).toArray 40) := heap_alloc_new w8 _
          have TZ := Below.then T8 A8
          have RZ := Rz.safe (Safe.below A8 : Safe 23 _ _)
          generalize hwz : w8.alloc (.cells #[.string { data := z.at_.toArray }, .string { data := z.by_.toArray }, .string { data := z.pred.toArray }, .slice z.a z.ks.length z.cap] 40) = wz at *
          generalize hgg : w8.heap.size = g at *
          clear hwz hgg A8 T8 Rz H7 G7 H8 G8 M7 M8 B7 b7 b8 n1 n2 n3 n4 H6 G6 H6d G6d TD BD TB TS gD T6'
          rcases fact_two hz with ⟨u1, u2⟩ | ⟨u1, u2⟩
          · have z0 := HST.out
            rw [u1] at z0
            have Z1 := hideP z0
            rw [u2]
            clear u1 u2 z0 HST
            go_wp2_with fail
            go_ret2
            exact ⟨BodyAns.no Z1.out, Below.then B TZ⟩
          · have z0 := HST.out
            rw [u1] at z0
            have Z1 := Mt.gather (acc := zs.map Fv.f) (c := z.f) z0
            rw [show zs.map Fv.f ++ [z.f] = (zs ++ [z]).map Fv.f by simp] at Z1
            have Z2 := hideP Z1
            rw [u2]
            clear u1 u2 z0 HST Z1 hz
            have OZ := ownsRow_keep OF (Safe.below TZ : Safe 40 _ _)
            have EZ := EK.safe (Safe.below TZ)
            have HRZ := below_heap TZ HR
            have BZ := Below.then B TZ
            have sz := Nat.le_trans sr2 TZ.size
            have A9 := below_alloc wz (.cells (fv z).toArray 40)
            have o9 := ownsRow_keep OZ (Safe.below A9 : Safe 40 _ _)
            have R9 : Row fK (wz.alloc (.cells (fv z).toArray 40)) (some ⟨wz.heap.size, 0, none⟩) 1 [z] := row_new fK wz _ _ z rfl
            have hb9 := Nat.le_trans sz A9.size
            clear OF EK HR TZ
            go_wp2_with (first | (refine wpList_load_all rfl 40 _ rfl g 4 40 (fv z) _ rfl HZ rfl Try.underlying40 rfl iF ?_) | (refine wpList_build_one rfl 42 40 _ rfl (fv z) _ 4 72 rfl rfl (by decide) (by decide) Try.underlying42 Try.iF4 ?_) | (at_builtin; refine wpList_append_rec fK _ rfl _ _ 42 40 rfl _ 72 Try.underlying42 Try.iFk rfl (by decide) W.heap.size (.slice u zs.length cu) zs [z] (some ⟨wz.heap.size, 0, none⟩) 1 1 rfl o9 rfl rfl R9 hb9 (by have := hk.out; simp only [List.length_cons, List.length_nil]; omega) ?_; intro v10 w10 o10 g10; obtain ⟨u10, c10, rfl, R10, _⟩ := own_row (D := fK) (xs := zs ++ [z]) o10 (by have := hk.out; simp only [List.length_append, List.length_cons, List.length_nil]; omega)))
            have SK : Safe 23 wz w10 := (Safe.below A9).trans (Safe.grown o9 g10 (by decide))
            have SR : Safe 37 wz w10 := (Safe.below A9).trans (Safe.grown o9 g10 (by decide))
            refine ⟨⟨i + 1, zs ++ [z], u10, c10, by rw [List.length_append]; rfl, by go_num, by omega, by show _ = _; rw [List.length_append, hk.out]; rfl, SR _ _ HRZ, o10, fun z' hz' => ?_, (Below.then BZ A9).trans ((own_below o9 g10 hb9).mono A0.size), Nat.le_trans hb9 g10.size, Z2⟩, by simp [intOf]; omega⟩
            rcases List.mem_append.1 hz' with h1 | h1
            · exact (EZ z' h1).safe SK
            · rw [List.mem_singleton.1 h1]; exact RZ.safe SK
        · have T8 := Below.then (Below.then TD M7) M8
          have BU := set4_but (w := w8) (b := w7.heap.size) (.string { data := z.at_.toArray }) (.string { data := z.by_.toArray }) (.string { data := z.pred.toArray }) (.slice z.a z.ks.length z.cap)
          have HZ : ((((w8.setCell ⟨w7.heap.size, 0, none⟩ (.string { data := z.at_.toArray })).setCell ⟨w7.heap.size, 1, none⟩ (.string { data := z.by_.toArray })).setCell ⟨w7.heap.size, 2, none⟩ (.string { data := z.pred.toArray })).setCell ⟨w7.heap.size, 3, none⟩ (.slice z.a z.ks.length z.cap)).heap[w7.heap.size]? = some (.cells (fv z).toArray 40) := set4_same Z9
          have TZ := T8.trans (BU.lower (Nat.le_trans TD.size M7.size) T8.size)
          have RZ := Rz.safe (Safe.but BU Z9 (by decide) : Safe 23 _ _)
          generalize hwz : ((((w8.setCell ⟨w7.heap.size, 0, none⟩ (.string { data := z.at_.toArray })).setCell ⟨w7.heap.size, 1, none⟩ (.string { data := z.by_.toArray })).setCell ⟨w7.heap.size, 2, none⟩ (.string { data := z.pred.toArray })).setCell ⟨w7.heap.size, 3, none⟩ (.slice z.a z.ks.length z.cap)) = wz at *
          generalize hgg : w7.heap.size = g at *
          clear hwz hgg BU T8 Rz H7 G7 H8 G8 M7 M8 B7 b7 b8 n1 n2 n3 n4 H6 G6 H6d G6d TD BD TB TS gD T6' Z9 qZ90 qZ91 qZ92 qZ93 fZ9
          rcases fact_two hz with ⟨u1, u2⟩ | ⟨u1, u2⟩
          · have z0 := HST.out
            rw [u1] at z0
            have Z1 := hideP z0
            rw [u2]
            clear u1 u2 z0 HST
            go_wp2_with fail
            go_ret2
            exact ⟨BodyAns.no Z1.out, Below.then B TZ⟩
          · have z0 := HST.out
            rw [u1] at z0
            have Z1 := Mt.gather (acc := zs.map Fv.f) (c := z.f) z0
            rw [show zs.map Fv.f ++ [z.f] = (zs ++ [z]).map Fv.f by simp] at Z1
            have Z2 := hideP Z1
            rw [u2]
            clear u1 u2 z0 HST Z1 hz
            have OZ := ownsRow_keep OF (Safe.below TZ : Safe 40 _ _)
            have EZ := EK.safe (Safe.below TZ)
            have HRZ := below_heap TZ HR
            have BZ := Below.then B TZ
            have sz := Nat.le_trans sr2 TZ.size
            have A9 := below_alloc wz (.cells (fv z).toArray 40)
            have o9 := ownsRow_keep OZ (Safe.below A9 : Safe 40 _ _)
            have R9 : Row fK (wz.alloc (.cells (fv z).toArray 40)) (some ⟨wz.heap.size, 0, none⟩) 1 [z] := row_new fK wz _ _ z rfl
            have hb9 := Nat.le_trans sz A9.size
            clear OF EK HR TZ
            go_wp2_with (first | (refine wpList_load_all rfl 40 _ rfl g 4 40 (fv z) _ rfl HZ rfl Try.underlying40 rfl iF ?_) | (refine wpList_build_one rfl 42 40 _ rfl (fv z) _ 4 72 rfl rfl (by decide) (by decide) Try.underlying42 Try.iF4 ?_) | (at_builtin; refine wpList_append_rec fK _ rfl _ _ 42 40 rfl _ 72 Try.underlying42 Try.iFk rfl (by decide) W.heap.size (.slice u zs.length cu) zs [z] (some ⟨wz.heap.size, 0, none⟩) 1 1 rfl o9 rfl rfl R9 hb9 (by have := hk.out; simp only [List.length_cons, List.length_nil]; omega) ?_; intro v10 w10 o10 g10; obtain ⟨u10, c10, rfl, R10, _⟩ := own_row (D := fK) (xs := zs ++ [z]) o10 (by have := hk.out; simp only [List.length_append, List.length_cons, List.length_nil]; omega)))
            have SK : Safe 23 wz w10 := (Safe.below A9).trans (Safe.grown o9 g10 (by decide))
            have SR : Safe 37 wz w10 := (Safe.below A9).trans (Safe.grown o9 g10 (by decide))
            refine ⟨⟨i + 1, zs ++ [z], u10, c10, by rw [List.length_append]; rfl, by go_num, by omega, by show _ = _; rw [List.length_append, hk.out]; rfl, SR _ _ HRZ, o10, fun z' hz' => ?_, (Below.then BZ A9).trans ((own_below o9 g10 hb9).mono A0.size), Nat.le_trans hb9 g10.size, Z2⟩, by simp [intOf]; omega⟩
            rcases List.mem_append.1 hz' with h1 | h1
            · exact (EZ z' h1).safe SK
            · rw [List.mem_singleton.1 h1]; exact RZ.safe SK
        · have T8 := Below.then (Below.then TD M7) M8
          have BU := set4_but (w := w8) (b := w6.heap.size) (.string { data := z.at_.toArray }) (.string { data := z.by_.toArray }) (.string { data := z.pred.toArray }) (.slice z.a z.ks.length z.cap)
          have HZ : ((((w8.setCell ⟨w6.heap.size, 0, none⟩ (.string { data := z.at_.toArray })).setCell ⟨w6.heap.size, 1, none⟩ (.string { data := z.by_.toArray })).setCell ⟨w6.heap.size, 2, none⟩ (.string { data := z.pred.toArray })).setCell ⟨w6.heap.size, 3, none⟩ (.slice z.a z.ks.length z.cap)).heap[w6.heap.size]? = some (.cells (fv z).toArray 40) := set4_same Z8
          have TZ := T8.trans (BU.lower (T6'.size) T8.size)
          have RZ := Rz.safe (Safe.but BU Z8 (by decide) : Safe 23 _ _)
          generalize hwz : ((((w8.setCell ⟨w6.heap.size, 0, none⟩ (.string { data := z.at_.toArray })).setCell ⟨w6.heap.size, 1, none⟩ (.string { data := z.by_.toArray })).setCell ⟨w6.heap.size, 2, none⟩ (.string { data := z.pred.toArray })).setCell ⟨w6.heap.size, 3, none⟩ (.slice z.a z.ks.length z.cap)) = wz at *
          generalize hgg : w6.heap.size = g at *
          clear hwz hgg BU T8 Rz H7 G7 H8 G8 M7 M8 B7 b7 b8 n1 n2 n3 n4 H6 G6 H6d G6d TD BD TB TS gD T6' Z7 Z8 qZ80 qZ81 qZ82 qZ83 fZ8
          rcases fact_two hz with ⟨u1, u2⟩ | ⟨u1, u2⟩
          · have z0 := HST.out
            rw [u1] at z0
            have Z1 := hideP z0
            rw [u2]
            clear u1 u2 z0 HST
            go_wp2_with fail
            go_ret2
            exact ⟨BodyAns.no Z1.out, Below.then B TZ⟩
          · have z0 := HST.out
            rw [u1] at z0
            have Z1 := Mt.gather (acc := zs.map Fv.f) (c := z.f) z0
            rw [show zs.map Fv.f ++ [z.f] = (zs ++ [z]).map Fv.f by simp] at Z1
            have Z2 := hideP Z1
            rw [u2]
            clear u1 u2 z0 HST Z1 hz
            have OZ := ownsRow_keep OF (Safe.below TZ : Safe 40 _ _)
            have EZ := EK.safe (Safe.below TZ)
            have HRZ := below_heap TZ HR
            have BZ := Below.then B TZ
            have sz := Nat.le_trans sr2 TZ.size
            have A9 := below_alloc wz (.cells (fv z).toArray 40)
            have o9 := ownsRow_keep OZ (Safe.below A9 : Safe 40 _ _)
            have R9 : Row fK (wz.alloc (.cells (fv z).toArray 40)) (some ⟨wz.heap.size, 0, none⟩) 1 [z] := row_new fK wz _ _ z rfl
            have hb9 := Nat.le_trans sz A9.size
            clear OF EK HR TZ
            go_wp2_with (first | (refine wpList_load_all rfl 40 _ rfl g 4 40 (fv z) _ rfl HZ rfl Try.underlying40 rfl iF ?_) | (refine wpList_build_one rfl 42 40 _ rfl (fv z) _ 4 72 rfl rfl (by decide) (by decide) Try.underlying42 Try.iF4 ?_) | (at_builtin; refine wpList_append_rec fK _ rfl _ _ 42 40 rfl _ 72 Try.underlying42 Try.iFk rfl (by decide) W.heap.size (.slice u zs.length cu) zs [z] (some ⟨wz.heap.size, 0, none⟩) 1 1 rfl o9 rfl rfl R9 hb9 (by have := hk.out; simp only [List.length_cons, List.length_nil]; omega) ?_; intro v10 w10 o10 g10; obtain ⟨u10, c10, rfl, R10, _⟩ := own_row (D := fK) (xs := zs ++ [z]) o10 (by have := hk.out; simp only [List.length_append, List.length_cons, List.length_nil]; omega)))
            have SK : Safe 23 wz w10 := (Safe.below A9).trans (Safe.grown o9 g10 (by decide))
            have SR : Safe 37 wz w10 := (Safe.below A9).trans (Safe.grown o9 g10 (by decide))
            refine ⟨⟨i + 1, zs ++ [z], u10, c10, by rw [List.length_append]; rfl, by go_num, by omega, by show _ = _; rw [List.length_append, hk.out]; rfl, SR _ _ HRZ, o10, fun z' hz' => ?_, (Below.then BZ A9).trans ((own_below o9 g10 hb9).mono A0.size), Nat.le_trans hb9 g10.size, Z2⟩, by simp [intOf]; omega⟩
            rcases List.mem_append.1 hz' with h1 | h1
            · exact (EZ z' h1).safe SK
            · rw [List.mem_singleton.1 h1]; exact RZ.safe SK
      · have q3 : ¬ (i : Int) < (x.body.length : Int) := by omega
        have z0 := HV.out
        rw [Mt.body_done (by omega)] at z0
        have z1 := hideP (Mt.gathered z0)
        have mx := OF.max
        obtain ⟨u', c', e', RF, _⟩ := own_row (D := fK) OF (by have := hk.out; omega)
        cases e'
        clear z0 HV OF
        go_wp2_with fail
        go_ret2
        exact ⟨⟨u, cu, zs, by rw [z1.out]; rfl, RF.row, RF.tag, mx, EK, by rw [z1.out]; rfl⟩, B⟩
end Go.Proofs.Ytbahbibibpkddaa
