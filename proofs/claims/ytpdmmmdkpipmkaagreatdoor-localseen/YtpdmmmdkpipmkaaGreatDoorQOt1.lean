/-
  The closure by which the program's Bound gathers variables.
-/
import Derived.Deep.RegionHeld3
import Derived.Test.YtpdmmmdkpipmkaaGreatDoorQOp1
import Derived.Test.YtpdmmmdkpipmkaaGreatDoorQFrame
import Derived.Test.YtpdmmmdkpipmkaaGreatDoorQMb
import Derived.Test.YtpdmmmdkpipmkaaGreatDoorQLd
import Derived.Test.YtpdmmmdkpipmkaaGreatDoorQLa
import Derived.Test.YtpdmmmdkpipmkaaGreatDoorQBt
namespace Go.Proofs.YtpdmmmdkpipmkaaGreatDoor
open Go.RowKit Go.Lib Go.Shelf

/-- WHAT IS GATHERED in the world w: a map in a box, a row of the call's own in another one -/
structure AddAt (base : Nat) (w : World) (bs bl bm : Nat) (L : List (List UInt8)) : Prop where
  cs : w.heap[bs]? = some (.cells #[.map (some bm)] 178)
  cl : ∃ v, w.heap[bl]? = some (.cells #[v] 53) ∧ w.ownsRow base 9 sK.k v L.length (L.flatMap sK.enc)
  cm : SeenAt w bm L
  ls : base ≤ bs
  ll : base ≤ bl
  lm : base ≤ bm
theorem AddAt.next {base : Nat} {w w' : World} {bs bl bm : Nat} {L : List (List UInt8)} (h : AddAt base w bs bl bm L) (hb : Below w.heap.size w w') : AddAt base w' bs bl bm L := by
  obtain ⟨v, h1, h2⟩ := h.cl
  exact ⟨below_heap hb h.cs, ⟨v, below_heap hb h1, ownsRow_keep h2 (Safe.below hb)⟩, h.cm.below hb h.cm.lt, h.ls, h.ll, h.lm⟩
/-- blocks of other types stand -/
def Kp3 (w w' : World) : Prop := ∀ ty : TypeId, ty ≠ 178 → ty ≠ 53 → ty ≠ 9 → Safe ty w w'
theorem Kp3.below {w w' : World} (h : Below w.heap.size w w') : Kp3 w w' := fun _ _ _ _ => Safe.below h
theorem Kp3.trans {a b c : World} (x : Kp3 a b) (y : Kp3 b c) : Kp3 a c := fun ty h1 h2 h3 => (x ty h1 h2 h3).trans (y ty h1 h2 h3)
theorem safe_map {ty : TypeId} {bm : Nat} {w w' : World} {es : Array MapEntry} {clock : Nat} (h : But bm w w') (hm : w.heap[bm]? = some (.map es clock)) : Safe ty w w' := fun k cur hk => h.heap (fun e => by subst e; rw [hm] at hk; cases hk) hk

set_option maxRecDepth 100000 in
set_option maxHeartbeats 4000000 in
theorem add_at (t : Tm) (base bs bl bm : Nat) (L : List (List UInt8)) (w : World) (h : AddAt base w bs bl bm L) (ht : t.v.length ≤ maxLen) (hL : L.length < 1000000) :
    Calls Tryz.prog 132 #[tval t, ptr bs, ptr bl] w fun e w' => e = .returned (.tuple #[]) ∧ AddAt base w' bs bl bm (Ck.wv L t) ∧ Below base w w' ∧ Kp3 w w' := by
  obtain ⟨v, ⟨nm, n, s⟩⟩ := t
  simp only at ht
  have hbase : base ≤ w.heap.size := Nat.le_trans h.lm (Nat.le_of_lt h.cm.lt)
  have A1 := below_alloc w (.cells #[str v, .bool nm, .int .i64 n, str s] 44)
  have h1 := h.next A1
  generalize hW1 : w.alloc (.cells #[str v, .bool nm, .int .i64 n, str s] 44) = W1 at A1 h1
  have A2 := below_alloc W1 (.cells #[] 179)
  have h2 := h1.next A2
  have B2 := Below.then A1 A2
  have c1 : W1.cell? ⟨bs, 0, none⟩ = some (.map (some bm)) := by rw [heap_cell h1.cs]; rfl
  have lk := h1.cm.look v ht
  have n1 := heap_alloc_new w (.cells #[str v, .bool nm, .int .i64 n, str s] 44)
  rw [hW1] at n1
  have n2 := below_heap A2 n1
  generalize hW2 : W1.alloc (.cells #[] 179) = W2 at A2 h2 B2 n2
  have d0 : W1.cell? ⟨w.heap.size, 0, none⟩ = some (str v) := by rw [heap_cell n1]; rfl
  have d2 : W2.cell? ⟨w.heap.size, 0, none⟩ = some (str v) := by rw [heap_cell n2]; rfl
  by_cases hin : v ∈ L
  · have hw : Hid (Ck.wv L ⟨v, ⟨nm, n, s⟩⟩ = L) := by
      show Ck.wv L ⟨v, ⟨nm, n, s⟩⟩ = L
      unfold Ck.wv; rw [if_pos (.inr hin)]
    rw [show decide (v ∈ L) = true by simpa using hin] at lk
    clear hin
    subst hW2 hW1
    go_enter Tryz.func132, Tryz.ntmps132
    go_wp2_with fail
    refine bodyPost_ret (results_none rfl _ _ _) rfl ?_
    exact ⟨rfl, by rw [hw.out]; exact h2, B2.mono hbase, Kp3.below B2⟩
  · rw [show decide (v ∈ L) = false by simpa using hin] at lk
    by_cases he : v = []
    · have hw : Hid (Ck.wv L ⟨v, ⟨nm, n, s⟩⟩ = L) := by
        show Ck.wv L ⟨v, ⟨nm, n, s⟩⟩ = L
        unfold Ck.wv; rw [if_pos (.inl he)]
      have q : v.isEmpty = true := by simpa using he
      clear hin he
      subst hW2 hW1
      go_enter Tryz.func132, Tryz.ntmps132
      go_wp2_with fail
      refine bodyPost_ret (results_none rfl _ _ _) rfl ?_
      exact ⟨rfl, by rw [hw.out]; exact h2, B2.mono hbase, Kp3.below B2⟩
    · have hw : Hid (Ck.wv L ⟨v, ⟨nm, n, s⟩⟩ = L ++ [v]) := by
        show Ck.wv L ⟨v, ⟨nm, n, s⟩⟩ = L ++ [v]
        unfold Ck.wv; rw [if_neg (by simp only; exact fun h => h.elim he hin)]
      have q : v.isEmpty = false := by simpa using he
      clear hin he
      obtain ⟨w3, hput, s3, t3⟩ := h2.cm.put v ht hL
      obtain ⟨es, clock, hm2⟩ := h2.cm.map
      obtain ⟨u, l2, o2⟩ := h2.cl
      have K3 : ∀ ty : TypeId, Safe ty W2 w3 := fun ty => safe_map t3 hm2
      have e3 := K3 _ _ _ h2.cs
      have l3 := K3 _ _ _ l2
      have o3 := ownsRow_keep o2 (K3 _)
      have n3 := K3 _ _ _ n2
      have cs2 : W2.cell? ⟨bs, 0, none⟩ = some (.map (some bm)) := by rw [heap_cell h2.cs]; rfl
      have d3 : w3.cell? ⟨w.heap.size, 0, none⟩ = some (str v) := by rw [heap_cell n3]; rfl
      have cl3 : w3.cell? ⟨bl, 0, none⟩ = some u := by rw [heap_cell l3]; rfl
      have A4 := below_alloc w3 (.cells #[str v] 9)
      have o4 := ownsRow_keep o3 (Safe.below A4 : Safe 9 _ _)
      have R4 : Row sK (w3.alloc (.cells #[str v] 9)) (some ⟨w3.heap.size, 0, none⟩) 1 [v] := row_new sK w3 _ _ v rfl
      have l4 := below_heap A4 l3
      have e4 := below_heap A4 e3
      have s4 := s3.below A4 s3.lt
      have hb3 : base ≤ (w3.alloc (.cells #[str v] 9)).heap.size := by have := A4.size; have := t3.size; have := B2.size; omega
      subst hW2 hW1
      go_enter Tryz.func132, Tryz.ntmps132
      go_wp2_with (first
        | (at_builtin; refine wpList_append_rec sK _ rfl _ _ 53 9 rfl _ 16 Tryz.underlying53 Tryz.iS1 rfl (by decide) base u L [v] (some ⟨w3.heap.size, 0, none⟩) 1 1 rfl o4 rfl rfl R4 hb3 (by simp only [List.length_cons, List.length_nil]; omega) ?_; intro v5 w5 o5 g5; obtain ⟨a5, c5, rfl, r5, f5⟩ := own_row (D := sK) (xs := L ++ [v]) o5 (by simp only [List.length_append, List.length_cons, List.length_nil]; omega); have l5 := Safe.grown o4 g5 (by decide) _ _ l4; have e5 := Safe.grown o4 g5 (by decide) _ _ e4)
        | (refine wpList_store_cel rfl 53 _ _ rfl bl 0 1 53 (.slice a5 (L ++ [v]).length c5) #[.slice a5 (L ++ [v]).length c5] rfl rfl l5 rfl (by decide) (by kernel_rfl) rfl rfl ?_; intro w6 l6 t6))
      have B5 : Below base w w5 := ((B2.mono hbase).trans ((t3.lower h2.lm (by have := B2.size; omega)))).trans ((A4.mono (by have := t3.size; have := B2.size; omega)).trans (own_below o4 g5 hb3))
      have hs5 := B5.size
      have s5 : SeenAt w5 bm (L ++ [v]) := s4.block (g5.block bm s4.lt (fun e => by
        obtain ⟨es', ck', hm4⟩ := s4.map
        rcases o4.2 with ⟨h0, _⟩ | ⟨g', c', cur, hv, hgg, hh, _⟩
        · rw [h0] at e; cases e
        · rw [hv] at e
          have e' : bm = g' := by cases e; rfl
          rw [e', hh] at hm4
          cases hm4))
      have K5 : Kp3 w w5 := fun ty y1 y2 y3 => ((Safe.below B2).trans (K3 ty)).trans ((Safe.below A4).trans (Safe.grown o4 g5 y3))
      go_end0
      refine ⟨rfl, ?_, B5.trans (t6.lower h.ll (by omega)), K5.trans fun ty y1 y2 y3 => Safe.but t6 l5 y2⟩
      rw [hw.out]
      refine ⟨Safe.but t6 l5 (by decide) _ _ e5, ⟨_, l6, ownsRow_keep o5 (Safe.but t6 l5 (by decide))⟩, s5.block ?_, h.ls, h.ll, h.lm⟩
      exact t6.block bm s5.lt (fun e => by
        obtain ⟨es', ck', hm5⟩ := s5.map
        rw [e, l5] at hm5
        cases hm5)
end Go.Proofs.YtpdmmmdkpipmkaaGreatDoor

/-
  The program's Bound and Vars: which variables are bound.
-/
namespace Go.Proofs.YtpdmmmdkpipmkaaGreatDoor
open Go.RowKit Go.Lib Go.Shelf

theorem enter_add (args : Array Value) (w : World) : (callFunc 132 args).run Tryz.prog w = .ok (.enter 132 args) w := enters_of Tryz.func132 (by kernel_rfl) rfl args w
theorem Addr.add_zero' (a : Option Addr) : a.map (·.add 0) = a := by
  cases a with
  | none => rfl
  | some ad => obtain ⟨b, o, s⟩ := ad; cases s <;> simp [Addr.add]
theorem slice_hi (T : TypeId) (k : Nat) (w : World) (a : Option Addr) (n c m : Nat) (hu : Tryz.prog.underlying T = some (.slice (Tryz.prog.elem T))) (hs : (sizeOf (Tryz.prog.elem T)).run Tryz.prog w = .ok k w) (hm : m ≤ c) :
    (Instr.sliceAt T (.slice a n c) none (some (.int .i64 (m : Int))) none).run Tryz.prog w = .ok (.slice a m c) w := by
  rw [run_sliceAt_slice (h := hu), run_slice_h (ht := hu) (h0 := by omega) (h2 := by omega), hs]
  simp only [Result.andThen_ok, sliced, Nat.zero_mul, Int.toNat_natCast, Nat.sub_zero]
  rw [Addr.add_zero', ite_self]

set_option maxRecDepth 100000 in
set_option maxHeartbeats 1000000 in
theorem bound_at (x : Rv) (k : Int) (w : World) (hx : Rv.Aw w x) (hv : Ck.Vok x.r) :
    Calls Tryz.prog 79 #[rval x, .int .i64 k] w fun e w' => (∃ a c, e = .returned (.slice a (Ck.bnd x.r k.toNat).length c) ∧ Row sK w' a c (Ck.bnd x.r k.toNat)) ∧ Below w.heap.size w w' := by
  have hE := enter_add
  have iT : (Tryz.prog.info? 44).map (·.size) = some 4 := by kernel_rfl
  have iL : (Tryz.prog.info? 52).map (·.size) = some 10 := by kernel_rfl
  have hrl : x.r.body.length = x.body.length := List.length_map ..
  have HB := hideP (Ck.bnd_min x.r k.toNat)
  rw [hrl] at HB
  have hbf : x.body.length ≤ 300 := by have := hv.few; rwa [hrl] at this
  have hfew := hx.body.few
  have hroom := hx.body.room
  obtain ⟨M, hM⟩ : ∃ M : Nat, min k.toNat x.body.length = M := ⟨_, rfl⟩
  rw [hM] at HB
  have hMn : M ≤ x.body.length := by omega
  obtain ⟨m0, hm0⟩ : ∃ m0 : Nat, m0 = k.toNat := ⟨_, rfl⟩
  have hmx : ∀ (W : World) ts ty, (Builtin.max_ ts ty #[.int .i64 k, .int .i64 0]).run Tryz.prog W = .ok (.int .i64 (m0 : Int)) W := fun W ts ty => by
    rw [run_max_int2]; congr 2; rw [hm0]; split <;> omega
  have hmn : ∀ (W : World) ts ty, (Builtin.min_ ts ty #[.int .i64 (m0 : Int), .int .i64 (x.body.length : Int)]).run Tryz.prog W = .ok (.int .i64 (M : Int)) W := fun W ts ty => by
    rw [run_min_int2]; congr 2; rw [hm0, ← hM]; split <;> omega
  clear hM hrl hm0
  have HS := fun W => slice_hi 46 10 W x.ba x.body.length x.bcap M (by kernel_rfl) (by kernel_rfl) (by omega)
  have LEN := hideP (fun j => Ck.bnd_len hv j)
  have VH := hideP hv.home
  have hmm' := fun W => (show (Instr.makeMap 178 none).run Tryz.prog W = .ok (.map (some W.heap.size)) (W.alloc (.map #[] 0)) from rfl)
  have hc : (rv x).toArray = #[str x.home.v, .bool x.home.k.num, .int .i64 x.home.k.n, str x.home.k.s, str x.pred, .slice x.a x.args.length x.cap, str x.to_.v, .bool x.to_.k.num, .int .i64 x.to_.k.n, str x.to_.k.s, .slice x.ba x.body.length x.bcap] := rfl
  have H0 := heap_alloc_new w (.cells #[str x.home.v, .bool x.home.k.num, .int .i64 x.home.k.n, str x.home.k.s, str x.pred, .slice x.a x.args.length x.cap, str x.to_.v, .bool x.to_.k.num, .int .i64 x.to_.k.n, str x.to_.k.s, .slice x.ba x.body.length x.bcap] 48)
  have A0 := below_alloc w (.cells #[str x.home.v, .bool x.home.k.num, .int .i64 x.home.k.n, str x.home.k.s, str x.pred, .slice x.a x.args.length x.cap, str x.to_.v, .bool x.to_.k.num, .int .i64 x.to_.k.n, str x.to_.k.s, .slice x.ba x.body.length x.bcap] 48)
  have Z0 : (w.alloc (.cells #[str x.home.v, .bool x.home.k.num, .int .i64 x.home.k.n, str x.home.k.s, str x.pred, .slice x.a x.args.length x.cap, str x.to_.v, .bool x.to_.k.num, .int .i64 x.to_.k.n, str x.to_.k.s, .slice x.ba x.body.length x.bcap] 48)).heap.size = w.heap.size + 1 := World.size_alloc ..
  generalize hW0 : w.alloc (.cells #[str x.home.v, .bool x.home.k.num, .int .i64 x.home.k.n, str x.home.k.s, str x.pred, .slice x.a x.args.length x.cap, str x.to_.v, .bool x.to_.k.num, .int .i64 x.to_.k.n, str x.to_.k.s, .slice x.ba x.body.length x.bcap] 48) = W0 at H0 A0 Z0
  have A1 := below_alloc W0 (.cells #[.slice none 0 0] 53)
  have H1 := heap_alloc_new W0 (.cells #[.slice none 0 0] 53)
  have A2 := below_alloc (W0.alloc (.cells #[.slice none 0 0] 53)) (.map #[] 0)
  have S2 := seen_new (W0.alloc (.cells #[.slice none 0 0] 53))
  have A3 := below_alloc ((W0.alloc (.cells #[.slice none 0 0] 53)).alloc (.map #[] 0)) (.cells #[.map none] 178)
  have H3 := heap_alloc_new ((W0.alloc (.cells #[.slice none 0 0] 53)).alloc (.map #[] 0)) (.cells #[.map none] 178)
  simp only [World.size_alloc, Z0] at H1 H3 S2
  subst hW0
  go_enter Tryz.func79, Tryz.ntmps79
  go_upto_region 4 with (refine wpList_store_cel rfl 178 _ _ rfl (w.heap.size + 1 + 1 + 1) 0 1 178 (.map (some (w.heap.size + 1 + 1))) #[.map (some (w.heap.size + 1 + 1))] rfl rfl H3 rfl (by decide) (by kernel_rfl) rfl rfl ?_; intro w4 h4 t4)
  have A03 := Below.then (Below.then A0 A1) (Below.then A2 A3)
  have l4 : w4.heap[w.heap.size + 1]? = some (.cells #[.slice none 0 0] 53) := t4.heap (by omega) (below_heap (Below.then A2 A3) H1)
  have H4 := t4.heap (k := w.heap.size) (by omega) (below_heap (Below.then A1 (Below.then A2 A3)) H0)
  have S4 : SeenAt w4 (w.heap.size + 1 + 1) [] := (S2.below A3 S2.lt).block (t4.block _ (by have := (S2.below A3 S2.lt).lt; exact this) (by omega))
  have D4 : AddAt w.heap.size w4 (w.heap.size + 1 + 1 + 1) (w.heap.size + 1) (w.heap.size + 1 + 1) [] := ⟨h4, ⟨_, l4, World.ownsRow_nil _ _ _ _⟩, S4, by omega, by omega, by omega⟩
  have B4 : Below w.heap.size w w4 := A03.trans (t4.lower (by omega) A03.size)
  clear A0 A1 A2 A3 A03 H0 H1 H3 S2 t4 l4 h4 S4 Z0
  generalize hbs : w.heap.size + 1 + 1 + 1 = bs at *
  generalize hbm : w.heap.size + 1 + 1 = bm at *
  generalize hbl : w.heap.size + 1 = bl at *
  clear hbs hbm hbl
  have r4 := (rule_parts10 (x := x) H4).1
  go_wp2_with (refine wpList_load_mid rfl 44 _ rfl w.heap.size 0 rfl (tv x.home) _ r4 Tryz.underlying44 rfl iT ?_)
  refine (add_at x.home w.heap.size bs bl bm [] w4 D4 VH.out (by simp)).mono ?_
  rintro e w5 ⟨rfl, D5, b5, K5⟩
  have H5 := K5 48 (by decide) (by decide) (by decide) _ _ H4
  have B5 := B4.trans b5
  have c5 := (rule_parts10 (x := x) H5).2.2.2.2.2.2
  have D5' : AddAt w.heap.size w5 bs bl bm (Ck.bnd x.r 0) := D5
  clear H4 D4 B4 b5 K5 r4 H5 D5
  have hrow := (hx.body.take M)
  have hlen : (x.body.take M).length = M := by rw [List.length_take]; omega
  go_wp2_with fail
  go_loopw [9, 11, 28] (fun _ _ v28 wr => ∃ j : Nat, v28 = .int .i64 (j : Int) ∧ j ≤ M ∧ AddAt w.heap.size wr bs bl bm (Ck.bnd x.r j) ∧ Below w.heap.size w wr) (fun _ _ v28 _ => M - (RowKit.intOf v28).toNat)
  case atStart => exact ⟨0, rfl, by omega, D5', B5⟩
  case round =>
    obtain ⟨j, rfl, hj, D, B⟩ := hrel
    by_cases hlt : j < M
    · have q : (j : Int) < (M : Int) := by omega
      have hjb : j < x.body.length := by omega
      obtain ⟨P1, O1, hP⟩ := hx.body.addr (Nat.lt_of_le_of_lt (Nat.zero_le _) hjb)
      have r1 : wr.rangeAt P1 (O1 + j * 10) (lv (x.body[j]'hjb)) := by
        have := hx.body.below B (Nat.le_refl _)
        rw [hP] at this
        exact this.range j hjb
      have aY := hx.each _ (List.getElem_mem hjb)
      have hjr : j < x.r.body.length := by show j < (x.body.map Lv.l).length; rw [List.length_map]; exact hjb
      have hyr : x.r.body[j] = (x.body[j]'hjb).l := by simp [Rv.r]
      have SU := hideP (Ck.bnd_succ (r := x.r) hjr)
      rw [hyr] at SU
      have VB := hideP (hv.body _ (List.getElem_mem hjr))
      rw [hyr] at VB
      have VE := hv.each _ (List.getElem_mem hjr)
      rw [hyr] at VE
      have LJ := LEN.out j
      rw [hP]
      generalize (x.body[j]'hjb) = y at *
      change y.args.length ≤ 300 at VE
      have iP : (Tryz.prog.info? 52).map (·.size) = some (lv y).length := iL
      generalize Ck.bnd x.r j = L at *
      clear hjr hyr
      go_upto_region 8 with (first
        | (refine wpList_load_mid rfl 52 _ rfl P1 (O1 + j * 10) rfl (lv y) _ r1 Tryz.underlying52 rfl iP ?_)
        | (refine wpList_store_all rfl 52 _ _ rfl wr.heap.size 10 _ 52 (lv y) rfl rfl (heap_alloc_new wr _) rfl rfl iL rfl ?_; intro w2 H2 d2; have B2 := below_tok d2))
      have D2 := D.next B2
      have E2 := B.trans (B2.mono B.size)
      have p2 := lit_parts10 H2
      have p20 := p2.1
      generalize hV : wr.heap.size = V at *
      clear r1 D d2 B2 p2
      go_wp2_with (refine wpList_load_mid rfl 44 _ rfl V 0 rfl (tv y.by_) _ p20 Tryz.underlying44 rfl iT ?_)
      refine (add_at y.by_ w.heap.size bs bl bm L w2 D2 VB.out.1 (by omega)).mono ?_
      rintro e w3 ⟨rfl, D3, b3, K3⟩
      have H3 := K3 52 (by decide) (by decide) (by decide) _ _ H2
      have E3 := E2.trans b3
      have c3 := (lit_parts10 H3).2.2.2.1
      have L3 := Ck.wv_len L y.by_
      clear H2 D2 b3 K3 p20 E2
      go_wp2_with fail
      go_loopw [11, 39] (fun _ v39 wi => ∃ i : Nat, v39 = .int .i64 (i : Int) ∧ i ≤ y.args.length ∧ AddAt w.heap.size wi bs bl bm ((y.args.take i).foldl Ck.wv (Ck.wv L y.by_)) ∧ Below w.heap.size w wi ∧ wi.heap[V]? = some (.cells (lv y).toArray 52)) (fun _ v39 _ => y.args.length - (RowKit.intOf v39).toNat)
      case atStart => exact ⟨0, rfl, by omega, D3, E3, H3⟩
      case round =>
        obtain ⟨i, rfl, hi, D4, E4, H4⟩ := hrel
        by_cases hil : i < y.args.length
        · have q2 : (i : Int) < (y.args.length : Int) := by omega
          obtain ⟨P2, O2, hP2⟩ := Row.addr (show Row tK w y.a y.cap y.args from aY) (Nat.lt_of_le_of_lt (Nat.zero_le _) hil)
          have r4 : wr.rangeAt P2 (O2 + i * 4) (tv (y.args[i]'hil)) := by
            have := Row.below (show Row tK w y.a y.cap y.args from aY) E4 (Nat.le_refl _)
            rw [hP2] at this
            exact this.range i hil
          have VT := hideP (VB.out.2.1 _ (List.getElem_mem hil))
          have ST : Hid ((y.args.take (i + 1)).foldl Ck.wv (Ck.wv L y.by_) = Ck.wv ((y.args.take i).foldl Ck.wv (Ck.wv L y.by_)) (y.args[i]'hil)) := by
            show _ = _
            rw [List.take_succ_eq_append_getElem hil, List.foldl_append]; rfl
          have L4 := Ck.fold_len (y.args.take i) (Ck.wv L y.by_)
          rw [List.length_take] at L4
          rw [hP2]
          generalize (y.args[i]'hil) = t at *
          generalize (y.args.take i).foldl Ck.wv (Ck.wv L y.by_) = L' at *
          have iQ : (Tryz.prog.info? 44).map (·.size) = some (tv t).length := iT
          go_upto_region 12 with (first
            | (refine wpList_load_mid rfl 44 _ rfl P2 (O2 + i * 4) rfl (tv t) _ r4 Tryz.underlying44 rfl iQ ?_)
            | (refine wpList_store_all rfl 44 _ _ rfl wr.heap.size 4 _ 44 (tv t) rfl rfl (heap_alloc_new wr _) rfl rfl iT rfl ?_; intro w6 H6 d6; have B6 := below_tok d6))
          have D6 := D4.next B6
          have E6 := E4.trans (B6.mono E4.size)
          have G6 := below_heap B6 H4
          go_wp2_with (refine wpList_load_all rfl 44 _ rfl wr.heap.size 4 44 (tv t) _ rfl H6 rfl Tryz.underlying44 rfl iT ?_)
          refine (add_at t w.heap.size bs bl bm L' w6 D6 VT.out (by omega)).mono ?_
          rintro e w7 ⟨rfl, D7, b7, K7⟩
          go_wp2_with fail
          exact ⟨⟨i + 1, by go_num, by omega, by rw [ST.out]; exact D7, E6.trans b7, K7 52 (by decide) (by decide) (by decide) _ _ G6⟩, by simp [RowKit.intOf]; omega⟩
        · have q2 : ¬ (i : Int) < (y.args.length : Int) := by omega
          rw [List.take_of_length_le (by omega)] at D4
          have p4 := (lit_parts10 H4).2.1
          have L4 := Ck.fold_len y.args (Ck.wv L y.by_)
          go_wp2_with (refine wpList_load_mid rfl 44 _ rfl V 6 rfl (tv y.at_) _ p4 Tryz.underlying44 rfl iT ?_)
          refine (add_at y.at_ w.heap.size bs bl bm _ wr D4 VB.out.2.2 (by omega)).mono ?_
          rintro e w7 ⟨rfl, D7, b7, K7⟩
          go_wp2_with fail
          exact ⟨⟨j + 1, by go_num, by omega, by rw [SU.out]; exact D7, E4.trans b7⟩, by simp [RowKit.intOf]; omega⟩
    · have q : ¬ (j : Int) < (M : Int) := by omega
      obtain rfl : j = M := by omega
      rw [HB.out] at D
      obtain ⟨v, hl, ho⟩ := D.cl
      obtain ⟨a9, c9, rfl, R9, _⟩ := own_row (D := sK) ho (Nat.le_trans (Ck.bnd_all_len hv k.toNat) (by omega))
      have cl : wr.cell? ⟨bl, 0, none⟩ = some (.slice a9 (Ck.bnd x.r k.toNat).length c9) := by rw [heap_cell hl]; rfl
      go_wp2_with fail
      go_ret
      exact ⟨⟨a9, c9, rfl, R9.row⟩, B⟩

set_option maxRecDepth 100000 in
set_option maxHeartbeats 400000 in
theorem vars_at (x : Rv) (w : World) (hx : Rv.Aw w x) (hv : Ck.Vok x.r) :
    Calls Tryz.prog 127 #[rval x] w fun e w' => (∃ a c, e = .returned (.slice a (Ck.vars x.r).length c) ∧ Row sK w' a c (Ck.vars x.r)) ∧ Below w.heap.size w w' := by
  have A0 := below_alloc w (.cells (rv x).toArray 48)
  have H0 := heap_alloc_new w (.cells (rv x).toArray 48)
  have T := hideP (bound_at x (x.body.length : Int) _ (hx.below A0 (Nat.le_refl _)) hv)
  rw [Int.toNat_natCast, show Ck.bnd x.r x.body.length = Ck.vars x.r by unfold Ck.vars; rw [show x.r.body.length = x.body.length from List.length_map ..]] at T
  have c0 := (rule_parts10 (x := x) H0).2.2.2.2.2.2
  go_enter Tryz.func127, Tryz.ntmps127
  go_wp2_with (refine wpList_load_all rfl 48 _ rfl w.heap.size 11 48 (rv x) _ rfl H0 rfl Tryz.underlying48 rfl Tryz.iR11 ?_)
  refine T.out.mono ?_
  rintro e w1 ⟨⟨a, c, rfl, r1⟩, b1⟩
  go_wp2_with fail
  go_ret
  exact ⟨⟨a, c, rfl, r1⟩, Below.then A0 b1⟩
end Go.Proofs.YtpdmmmdkpipmkaaGreatDoor

/-
  The program's isRemote, relay, variables; slices.Clone of terms.
-/
namespace Go.Proofs.YtpdmmmdkpipmkaaGreatDoor
open Go.RowKit Go.Lib Go.Shelf

theorem Tryz.iTk13 : (Tryz.prog.info? 44).map (fun i => (i.zero, i.size, i.bytes)) = some (some (.agg #[.string .empty, .bool false, .int .i64 0, .string .empty]), tK.k, 48) := by kernel_rfl
theorem Tryz.iLk13 : (Tryz.prog.info? 52).map (fun i => (i.zero, i.size, i.bytes)) = some (some (.agg #[.string .empty, .bool false, .int .i64 0, .string .empty, .string .empty, .slice none 0 0, .string .empty, .bool false, .int .i64 0, .string .empty]), lK.k, 136) := by kernel_rfl
theorem Tryz.iRk13 : (Tryz.prog.info? 48).map (fun i => (i.zero, i.size, i.bytes)) = some (some (.agg #[.string .empty, .bool false, .int .i64 0, .string .empty, .string .empty, .slice none 0 0, .string .empty, .bool false, .int .i64 0, .string .empty, .slice none 0 0]), rK.k, 160) := by kernel_rfl
theorem eqT_same (a b : Tm) : sameT a b = Lc.eqT a b := by
  rw [Bool.eq_iff_iff, sameT_iff, Lc.eqT_iff]
theorem own_rowO {α : Type} {D : Kd α} {ty : TypeId} {w : World} {base : Nat} {v : Value} {n : Nat} {xs : List α} (h : w.ownsRow base ty D.k v n (xs.flatMap D.enc)) (hf : xs.length ≤ 4398046510976) : ∃ a c, v = .slice a xs.length c ∧ RowT D ty w a c xs := by
  obtain ⟨a, c, h1, h2, _⟩ := own_row h hf
  exact ⟨a, c, h1, h2⟩

set_option maxRecDepth 100000 in
set_option maxHeartbeats 400000 in
theorem cloneT_at (a : Option Addr) (c : Nat) (xs : List Tm) (w : World) (hl : Row tK w a c xs) (few : xs.length ≤ 1000000) :
    Calls Tryz.prog 47 #[.slice a xs.length c] w fun e w' => (∃ a' c', e = .returned (.slice a' xs.length c') ∧ RowT tK 44 w' a' c' xs) ∧ Below w.heap.size w w' := by
  have hnil : ∀ (w : World) (a : Option Addr) (n c : Nat), (binOp .eql 45 (.slice a n c) (.slice none 0 0)).run Tryz.prog w = .ok (.bool a.isNone) w := fun w a n c => Lib.run_eql_slice_nil w 45 _ a n c 0 0 Tryz.underlying45
  cases a with
  | none =>
    obtain ⟨rfl, rfl⟩ := hl.void rfl
    go_enter Tryz.func47, Tryz.ntmps47
    go_wp2_with fail
    go_ret
    exact ⟨⟨none, 0, rfl, RowT.nil _ _ _⟩, Below.refl _ _⟩
  | some ad =>
    have O1 := owns_lit tK w 44 #[] [] rfl (by simp)
    have A1 := below_alloc w (.cells #[] 44)
    have L1 := hl.below A1 (Nat.le_refl _)
    go_enter Tryz.func47, Tryz.ntmps47
    go_wp2_with (at_builtin; refine wpList_append_rec tK _ rfl _ _ 45 44 rfl _ 48 Tryz.underlying45 Tryz.iTk13 rfl (by decide) w.heap.size (.slice (some ⟨w.heap.size, 0, none⟩) 0 0) [] xs (some ad) xs.length c rfl O1 rfl rfl L1 A1.size (by simp only [List.length_nil]; omega) ?ap)
    case ap =>
      intro v w2 ho hg
      obtain ⟨a2, c2, rfl, R2⟩ := own_rowO (D := tK) (xs := [] ++ xs) ho (by simp only [List.nil_append]; omega)
      have B2 : Below w.heap.size w w2 := A1.trans (own_below O1 hg A1.size)
      go_wp2_with fail
      go_ret
      exact ⟨⟨a2, c2, rfl, R2⟩, B2⟩

set_option maxRecDepth 100000 in
set_option maxHeartbeats 400000 in
theorem isRemote_at (y : Lv) (h : Tm) (w : World) :
    Calls Tryz.prog 43 #[lval y, tval h] w fun e w' => e = .returned (.bool (!Lc.eqT y.at_ t0 && !Lc.eqT y.at_ h)) ∧ Below w.heap.size w w' := by
  have E1 := fun W => eqTerm y.at_ ⟨[], ⟨false, 0, []⟩⟩ W
  have E2 := fun W => eqTerm y.at_ h W
  have e1 : sameT y.at_ ⟨[], ⟨false, 0, []⟩⟩ = Lc.eqT y.at_ t0 := eqT_same _ _
  have e2 := eqT_same y.at_ h
  simp only [e1] at E1
  simp only [e2] at E2
  clear e1 e2
  have A0 := Below.then (below_alloc w (.cells (lv y).toArray 52)) (below_alloc _ (.cells (tv h).toArray 44))
  generalize Lc.eqT y.at_ t0 = q1 at *
  generalize Lc.eqT y.at_ h = q2 at *
  obtain ⟨⟨v1, ⟨a1, b1, c1⟩⟩, p, ad, cap, ts, ⟨v2, ⟨a2, b2, c2⟩⟩⟩ := y
  obtain ⟨v3, ⟨a3, b3, c3⟩⟩ := h
  cases q1 with
  | true =>
    go_enter Tryz.func43, Tryz.ntmps43
    go_wp2_with fail
    go_ret
    exact ⟨rfl, A0⟩
  | false =>
    go_enter Tryz.func43, Tryz.ntmps43
    go_wp2_with fail
    go_ret
    exact ⟨rfl, A0⟩

theorem cat13 (a b : List UInt8) : ∃ c : List UInt8, Hid (c = a ++ b) ∧ (⟨a.toArray⟩ : ByteArray) ++ ⟨b.toArray⟩ = ⟨c.toArray⟩ ∧ (⟨c.toArray⟩ : ByteArray).size = c.length ∧ c.length = a.length + b.length :=
  ⟨a ++ b, rfl, (by apply ByteArray.ext; simp), str_size _, List.length_append⟩
theorem Lc.dec_len : ∀ (u : Nat), u ≤ 1000000 → (Lib.decDigits u).length ≤ 21 := fun u hu => by
  have := Lib.itoa_length_le (u : Int) (by omega) (by omega)
  unfold Lib.itoa at this
  rw [if_neg (by omega)] at this
  simpa using this
theorem itoa_nat (n : Nat) : Lib.itoa (n : Int) = Lib.decDigits n := by
  unfold Lib.itoa; rw [if_neg (by omega)]; simp
set_option maxRecDepth 100000 in
set_option maxHeartbeats 400000 in
theorem relay_at (v : List UInt8) (i k : Nat) (w : World) (hL : Laid w) (hv : v.length ≤ 10) (hi : i ≤ 1000000) (hk : k ≤ 1000000) :
    Calls Tryz.prog 45 #[str v, .int .i64 (i : Int), .int .i64 (k : Int)] w fun e w' => e = .returned (str (126 :: (v ++ Lc.nms i k))) ∧ Below w.heap.size w w' := by
  have I1 := hideP (itoa_at (i : Int) w (by omega) (by omega) hL)
  have I2 := hideP (fun W (h : Laid W) => itoa_at (k : Int) W (by omega) (by omega) h)
  have e1 : Lib.itoa (i : Int) = Lib.decDigits i := itoa_nat i
  have e2 : Lib.itoa (k : Int) = Lib.decDigits k := itoa_nat k
  rw [e1] at I1
  rw [e2] at I2
  have di := Lc.dec_len i hi
  have dk := Lc.dec_len k hk
  obtain ⟨s1, h1, q1, z1, n1⟩ := cat13 [126] v
  obtain ⟨s2, h2, q2, z2, n2⟩ := cat13 s1 (Lib.decDigits i)
  obtain ⟨s3, h3, q3, z3, n3⟩ := cat13 s2 [46]
  obtain ⟨s4, h4, q4, z4, n4⟩ := cat13 s3 (Lib.decDigits k)
  have HS : Hid (126 :: (v ++ Lc.nms i k) = s4) := by
    show _ = _
    rw [h4.out, h3.out, h2.out, h1.out]
    simp [Lc.nms]
  simp only [List.length_cons, List.length_nil] at n1 n3
  have zv := str_size v
  have zi := str_size (Lib.decDigits i)
  have zk := str_size (Lib.decDigits k)
  have q1' : (⟨#[126]⟩ : ByteArray) ++ ⟨v.toArray⟩ = ⟨s1.toArray⟩ := q1
  have q3' : (⟨s2.toArray⟩ : ByteArray) ++ ⟨#[46]⟩ = ⟨s3.toArray⟩ := q3
  generalize Lib.decDigits i = D1 at *
  generalize Lib.decDigits k = D2 at *
  clear h1 h2 h3 h4 q1 q3 e1 e2
  go_enter Tryz.func45, Tryz.ntmps45
  go_wp2_with fail
  refine I1.out.mono ?_
  rintro e w1 ⟨rfl, b1⟩
  go_wp2_with fail
  refine (I2.out w1 (hL.below b1)).mono ?_
  rintro e w2 ⟨rfl, b2⟩
  go_wp2_with fail
  go_ret
  rw [HS.out]
  exact ⟨rfl, Below.then b1 b2⟩

set_option maxRecDepth 100000 in
set_option maxHeartbeats 800000 in
theorem variables_at (x : Rv) (k : Nat) (w : World) (hx : Rv.Aw w x) (hv : Ck.Vok x.r) :
    Calls Tryz.prog 46 #[rval x, .int .i64 (k : Int)] w fun e w' => (∃ a c, e = .returned (.slice a (Lc.vts (Ck.bnd x.r k)).length c) ∧ RowT tK 44 w' a c (Lc.vts (Ck.bnd x.r k))) ∧ Below w.heap.size w w' := by
  have A0 := below_alloc w (.cells (rv x).toArray 48)
  have H0 := heap_alloc_new w (.cells (rv x).toArray 48)
  have T := hideP (bound_at x (k : Int) _ (hx.below A0 (Nat.le_refl _)) hv)
  rw [Int.toNat_natCast] at T
  have few : (Ck.bnd x.r k).length ≤ 1000000 := Nat.le_trans (Ck.bnd_all_len hv k) (by decide)
  generalize Ck.bnd x.r k = B at *
  go_enter Tryz.func46, Tryz.ntmps46
  go_wp2_with (refine wpList_load_all rfl 48 _ rfl w.heap.size 11 48 (rv x) _ rfl H0 rfl Tryz.underlying48 rfl Tryz.iR11 ?_)
  refine T.out.mono ?_
  rintro e w1 ⟨⟨a1, c1, rfl, r1⟩, b1⟩
  have B1 := Below.then A0 b1
  clear T A0 H0 b1
  go_wp2_with fail
  go_loopw [5, 7, 12] (fun v5 _ v12 wr => ∃ j : Nat, v12 = .int .i64 (j : Int) ∧ j ≤ B.length ∧ wr.ownsRow w1.heap.size 44 tK.k v5 (Lc.vts (B.take j)).length ((Lc.vts (B.take j)).flatMap tK.enc) ∧ Below w1.heap.size w1 wr) (fun _ _ v12 _ => B.length - (RowKit.intOf v12).toNat)
  case atStart => exact ⟨0, rfl, Nat.zero_le _, World.ownsRow_nil _ _ _ _, Below.refl _ _⟩
  case round =>
    obtain ⟨j, rfl, hj, O, D⟩ := hrel
    have lj : (Lc.vts (B.take j)).length = j := by simp [Lc.vts]; omega
    obtain ⟨a2, c2, rfl, R2⟩ := own_rowO (D := tK) O (by omega)
    by_cases hlt : j < B.length
    · have q : (j : Int) < (B.length : Int) := by omega
      obtain ⟨P1, O1, rfl⟩ := r1.addr (Nat.lt_of_le_of_lt (Nat.zero_le _) hlt)
      have r2 : wr.cell? ⟨P1, O1 + j * 1, none⟩ = some (str (B[j]'hlt)) := (r1.below D (Nat.le_refl _)).range j hlt 0 _ rfl
      rw [Nat.mul_one] at r2
      have ST : Lc.vts (B.take (j + 1)) = Lc.vts (B.take j) ++ [⟨B[j]'hlt, k0⟩] := by
        show (B.take (j + 1)).map _ = (B.take j).map _ ++ [_]
        rw [List.take_succ_eq_append_getElem hlt, List.map_append]; rfl
      have HST := hideP ST
      clear ST
      generalize (B[j]'hlt) = s at *
      have A3 := below_alloc wr (.cells (tv ⟨s, k0⟩).toArray 44)
      have O3 := ownsRow_keep O (Safe.below A3 : Safe 44 _ _)
      have R3 : Row tK (wr.alloc (.cells (tv ⟨s, k0⟩).toArray 44)) (some ⟨wr.heap.size, 0, none⟩) 1 [⟨s, k0⟩] := row_new tK wr _ _ ⟨s, k0⟩ rfl
      have hb3 := Nat.le_trans D.size A3.size
      go_wp2_with (first | (refine wpList_build_one rfl 45 44 _ rfl (tv ⟨s, k0⟩) _ 4 48 rfl rfl (by decide) (by decide) Tryz.underlying45 Tryz.iTk13 ?_) | (at_builtin; refine wpList_append_rec tK _ rfl _ _ 45 44 rfl _ 48 Tryz.underlying45 Tryz.iTk13 rfl (by decide) w1.heap.size _ (Lc.vts (B.take j)) [⟨s, k0⟩] (some ⟨wr.heap.size, 0, none⟩) 1 1 rfl O3 rfl rfl R3 hb3 (by simp only [List.length_cons, List.length_nil]; omega) ?_; intro v4 w4 O4 g4))
      exact ⟨⟨j + 1, by go_num, by omega, by rw [HST.out]; exact O4, (D.trans (A3.mono D.size)).trans (own_below O3 g4 hb3)⟩, by simp [RowKit.intOf]; omega⟩
    · have q : ¬ (j : Int) < (B.length : Int) := by omega
      obtain rfl : j = B.length := by omega
      rw [List.take_length] at R2
      go_wp2_with fail
      go_ret
      exact ⟨⟨a2, c2, rfl, R2⟩, Below.then B1 D⟩
end Go.Proofs.YtpdmmmdkpipmkaaGreatDoor

/-
  Steps of a region that draws its order, under a condition that holds all along.
-/
namespace Go.Proofs.YtpdmmmdkpipmkaaGreatDoor
open Go.RowKit Go.Lib Go.Shelf

theorem wpOp_of {P : Program} {ops : Array Oper} {Q : Exit → Act → World → Prop} {i : Nat} {K : Act → World → Prop} {a : Act} {w : World} {o : Oper} (hi : ops[i]? = some o) (hgd : o.guard = none) (h : o.wp P a w K Q) : wpOp P ops Q i K a w := by
  unfold wpOp
  simp only [hi]
  rw [if_pos (by unfold Region.wanted; rw [hgd])]
  exact .inl h
theorem wpOp_build_one {P : Program} {ops : Array Oper} {Q : Exit → Act → World → Prop} {i : Nat} {K : Act → World → Prop} {a : Act} {w : World} {o : Oper} (hix : ops[i]? = some o) (hgd : o.guard = none) (t e : TypeId) (x : Operand) (ho : o.op = .buildSlice t 1 #[(0, x)])
    (vs : List Value) (z : Value) (k bytes : Nat) (hx : a.eval x = .agg vs.toArray) (hk : vs.length = k) (hk0 : 0 < k) (hk1 : k ≤ 1000)
    (hu : P.underlying t = some (.slice e)) (hi : (P.info? e).map (fun i => (i.zero, i.size, i.bytes)) = some (some z, k, bytes))
    (h : K (a.put o.dst (.slice (some ⟨w.heap.size, 0, none⟩) 1 1)) (w.alloc (.cells vs.toArray e))) : wpOp P ops Q i K a w := by
  refine wpOp_of hix hgd ?_
  obtain ⟨i0, h0, h1, h2, h3⟩ := info_parts hi
  refine wp_buildSlice t e 1 _ ho _ i0 z hu h0 h1 (by rw [h2]; omega) (by rw [h2]; omega) ?_ h
  rw [h2]
  generalize hC : (Array.range (1 * k)).map (z.cells[· % z.cells.size]!) = C
  have hs : C.size = k := by rw [← hC]; simp
  have e1 : ((#[(0, x)] : Array (Nat × Operand)).map fun (i, x) => (i, a.eval x)).toList = [(0, .agg vs.toArray)] := by simp [hx]
  rw [e1]
  have hc : (Value.agg vs.toArray).cells = vs.toArray := rfl
  unfold Instr.fill
  simp only [hc, List.size_toArray, hk]
  rw [if_neg (by simp [hs])]
  unfold Instr.fill
  have hz : vs.toArray.zipIdx = (vs.zipIdx 0).toArray := by simp
  rw [hz]
  simp only [List.foldl_toArray']
  have := fold_splice vs 0 C
  simp only [Nat.zero_mul] at *
  rw [show (fun (cs : Array Value) (x : Value × Nat) => match x with | (c, j) => cs.setIfInBounds (0 + j) c) = fun cs x => cs.setIfInBounds (0 + x.2) x.1 from rfl]
  rw [this, splice_all C vs (by omega)]
theorem wpOp_call {P : Program} {ops : Array Oper} {Q : Exit → Act → World → Prop} {i : Nat} {K : Act → World → Prop} {a : Act} {w : World} {o : Oper} {f : FuncId} {args : Array Value} {R : Value → World → Prop} (hi : ops[i]? = some o) (hgd : o.guard = none)
    (he : (execOp a.eval o).run P w = .ok (.enter f args) w) (hc : Calls P f args w fun e w' => ∃ v, e = .returned v ∧ R v w') (h : ∀ v w', R v w' → K (a.put o.dst v) w') : wpOp P ops Q i K a w := by
  refine wpOp_of hi hgd ?_
  unfold Oper.wp
  rw [he]
  exact hc.mono fun e w' ⟨v, h1, h2⟩ => by subst h1; exact h v w' h2
theorem yieldsIf_load_cel {P : Program} {ops : Array Oper} {S : World → Prop} {op : Oper} {a : Act} (hw : Region.wanted op (yielded ops a.tmps) = true) (ty : TypeId) (x : Operand) (ho : op.op = .load ty x) (V off : Nat) (v : Value) (hx : a.eval x = .pointer (some ⟨V, off, none⟩))
    (hag : ∀ w, (isAgg ty).run P w = .ok false w) (hc : ∀ w, S w → w.cell? ⟨V, off, none⟩ = some v) : YieldsIf P ops S op v a :=
  .inl ⟨hw, fun w hS => by
    have := hc w hS
    simp [execOp, ho, hx, Instr.loadAt, Instr.sureAddr, loadVar, hag, this, Result.andThen]⟩
theorem wpAnyH_one {P : Program} {md : Region.Mode} {ops : Array Oper} {Q : Exit → Act → World → Prop} {S : World → Prop} (i : Nat) {fuel : Nat} {listed : Array Bool} {a : Act} {w : World} (hr : Region.ready md ops listed = [i])
    (h : wpOp P ops Q i (fun a' w' => S w' ∧ wpAnyH P md ops Q S fuel (listed.setIfInBounds i true) a' w') a w) : wpAnyH P md ops Q S (fuel + 1) listed a w :=
  wpAnyH_all hr (by simp) (fun j hj => by rw [List.mem_singleton.1 hj]; exact h)
/-- a record read, in every world that meets the condition -/
theorem yieldsIf_load_mid {P : Program} {ops : Array Oper} {S : World → Prop} {op : Oper} {a : Act} (hw : Region.wanted op (yielded ops a.tmps) = true) (ty : TypeId) (x : Operand) (ho : op.op = .load ty x) (b off : Nat) (V : List Value) (d : TypeDesc) (hx : a.eval x = .pointer (some ⟨b, off, none⟩))
    (hu : P.underlying ty = some d) (hd : d.isRow = true) (hi : (P.info? ty).map (·.size) = some V.length) (hc : ∀ w, S w → w.rangeAt b off V) : YieldsIf P ops S op (.agg V.toArray) a :=
  .inl ⟨hw, fun w hS => by
    have := run_loadVar_mid w b off ty V d (hc w hS) hu hd hi
    simp [execOp, ho, hx, Instr.loadAt, Instr.sureAddr, this, Result.andThen]⟩
/-- append(row, records...), whatever their slice is -/
theorem wpOp_append_recN {α : Type} {P : Program} (D : Kd α) {ops : Array Oper} {Q : Exit → Act → World → Prop} {i : Nat} {K : Act → World → Prop} {a : Act} {w : World} {o : Oper} (hix : ops[i]? = some o) (hgd : o.guard = none) (s x : Operand) (t e : TypeId)
    (ho : o.op = .call { callee := .builtin .append, args := #[s, x], argTypes := #[t, t] }) (z : Value) (bytes : Nat) (ht : P.underlying t = some (.slice e)) (hinfo : (P.info? e).map (fun i => (i.zero, i.size, i.bytes)) = some (some z, D.k, bytes)) (hzs : z.cells.size = D.k)
    (base : Nat) (v : Value) (ys xs : List α) (ao : Option Addr) (m c : Nat) (hs : a.eval s = v) (hown : w.ownsRow base e D.k v ys.length (ys.flatMap D.enc)) (hx : a.eval x = .slice ao m c) (hm : xs.length = m) (hl : Row D w ao c xs) (hbase : base ≤ w.heap.size)
    (hfew : ys.length + xs.length ≤ 9223372036854775807) (hbig : (ys.length + xs.length) * bytes ≤ 140737488355328)
    (h : ∀ v' w', w'.ownsRow base e D.k v' (ys ++ xs).length ((ys ++ xs).flatMap D.enc) → w.grownBy w' v.ownBlock → K (a.put o.dst v') w') : wpOp P ops Q i K a w := by
  refine wpOp_of hix hgd ?_
  obtain ⟨i0, hi, hz0, hz1, hz2⟩ := info_parts hinfo
  subst hm
  cases ao with
  | none =>
    obtain ⟨rfl, rfl⟩ := hl.void rfl
    have hrun := run_append_owned_none (P := P) (w := w) base t o.type e i0 D.k ht hi v ys.length _ hown
    rw [List.length_nil] at hx
    unfold Oper.wp
    simp [execOp, ho, resolve, invoke, builtin, hs, hx, hrun, Result.andThen]
    exact h v w (by simpa using hown) ⟨rfl, rfl, rfl, Nat.le_refl _, fun _ _ _ => rfl⟩
  | some ad =>
    refine wp_append_own w s x t ho base e i0 z D.k bytes ht hi hz0 hz1 hz2 hzs D.pos _ ys.length _ hs hown ad xs.length c (xs.flatMap D.enc) hx (flat_len D.enc D.k D.len xs) (hl.cells ad rfl) (Row.flat_one D xs) (by unfold maxLen; omega) hbig hbase ?_
    intro v' w' ho' hg' hn'
    exact h v' w' (by rw [List.length_append, List.flatMap_append]; exact ho') hg'
end Go.Proofs.YtpdmmmdkpipmkaaGreatDoor
