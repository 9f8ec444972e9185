/-
  The reference lays lists of terms, and rules.
-/
import Derived.Test.YtghhdbkgibpebaaRp1
import Derived.Test.YtghhdbkgibpebaaRs
namespace Go.Proofs.Ytghhdbkgibpebaa
open Go.RowKit Go.Sort

theorem parts_len {α : Type} (f : α → List UInt8) (L : List UInt8) (xs : List α) (k : Nat) (h : k < xs.length) {m : Nat} (hL : (L ++ xs.flatMap f).length ≤ m) : (L ++ (xs.take k).flatMap f ++ f xs[k]).length ≤ m := by
  refine Nat.le_trans ?_ hL
  rw [List.append_assoc, ← take_bytes f xs k h]
  have e : xs.flatMap f = (xs.take (k + 1)).flatMap f ++ (xs.drop (k + 1)).flatMap f := by rw [← List.flatMap_append, List.take_append_drop]
  rw [e]; simp only [List.length_append]; omega

set_option maxRecDepth 100000 in
set_option maxHeartbeats 4000000 in
theorem rputTerms_at (w : World) (v : Value) (l : List UInt8) (a : Option Addr) (c : Nat) (xs : List Tm) (W : World) (hx : Row tK w a c xs) (hi : ∀ t ∈ xs, KIn t.k) (ho : OwnB W w.heap.size v l) (hB : Below w.heap.size w W) (hr : (l ++ listB termB xs).length ≤ 100000000000000) :
    Calls Try.prog 84 #[v, .slice a xs.length c] W fun e w' => ∃ v', e = .returned v' ∧ OwnB w' w.heap.size v' (l ++ listB termB xs) ∧ Grows w.heap.size W w' := by
  have few := hx.few
  have hr' : (l ++ intB (xs.length : Int) ++ xs.flatMap termB).length ≤ 100000000000000 := by unfold listB at hr; rwa [← List.append_assoc] at hr
  have hr1 : (l ++ intB (xs.length : Int)).length ≤ 100000000000000 := by simp only [List.length_append] at hr' ⊢; omega
  rw [show l ++ listB termB xs = l ++ intB (xs.length : Int) ++ xs.flatMap termB by unfold listB; rw [List.append_assoc]]
  have hK := fun (k : Tm) (hk : k ∈ xs) (v : Value) (l : List UInt8) (W : World) (h : OwnB W w.heap.size v l) (hb : w.heap.size ≤ W.heap.size) (hr : (l ++ termB k).length ≤ 100000000000000) => rputTerm_at w.heap.size v l k W h hb (hi k hk) hr
  go_enter Try.func84, Try.ntmps84
  go_wp2_with fail
  refine (rputInt5_at w.heap.size v l (xs.length : Int) W ho hB.size (by omega) (by omega) hr1).mono ?_; rintro e w1 ⟨v1, rfl, o1, g1⟩
  clear hr hr1 ho
  generalize hLL : l ++ intB (xs.length : Int) = L at *
  have HLL := hideP hLL; clear hLL
  go_wp2_with fail
  go_loopw [0, 5] (fun v0 v5 wr => ∃ k : Nat, v5 = .int .i64 (k : Int) ∧ k ≤ xs.length ∧ OwnB wr w.heap.size v0 (L ++ (xs.take k).flatMap termB) ∧ Grows w.heap.size W wr) (fun _ v5 _ => xs.length - (intOf v5).toNat)
  case atStart => exact ⟨0, rfl, by omega, by simpa using o1, g1⟩
  case round =>
    obtain ⟨k, rfl, hk, ho, hg⟩ := hrel
    have hb : Below w.heap.size w wr := hB.trans hg.below
    by_cases hlt : k < xs.length
    · have q2 : (k : Int) < (xs.length : Int) := by omega
      obtain ⟨P1, O1, rfl⟩ := hx.addr (Nat.lt_of_le_of_lt (Nat.zero_le _) hlt)
      have hR := (hx.below hb (Nat.le_refl _)).range k hlt
      have hm := List.getElem_mem hlt
      have hst := hideP (take_bytes termB xs k hlt)
      have hl1 := parts_len termB L xs k hlt hr'
      generalize (xs[k]'hlt) = p at *
      have a1 := hR 0 _ rfl; have a2 := hR 1 _ rfl; have a3 := hR 2 _ rfl; have a4 := hR 3 _ rfl
      change wr.cell? ⟨P1, O1 + k * 4, none⟩ = some (str p.v) at a1
      change wr.cell? ⟨P1, O1 + k * 4 + 1, none⟩ = some (.bool p.k.num) at a2
      change wr.cell? ⟨P1, O1 + k * 4 + 2, none⟩ = some (.int .i64 p.k.n) at a3
      change wr.cell? ⟨P1, O1 + k * 4 + 3, none⟩ = some (str p.k.s) at a4
      go_wp2_with fail
      refine (hK p hm _ _ wr ho hb.size hl1).mono ?_; rintro e w8 ⟨v8, rfl, o8, g8⟩
      go_wp2_with fail
      refine ⟨⟨k + 1, by simp, by omega, ?_, hg.trans g8⟩, by simp [intOf]; omega⟩
      rw [hst.out, ← List.append_assoc]; exact o8
    · have q2 : ¬ (k : Int) < (xs.length : Int) := by omega
      have e : xs.take k = xs := List.take_of_length_le (by omega)
      rw [e] at ho
      go_wp2_with fail
      go_ret
      rw [← HLL.out] at ho
      exact ⟨u0, rfl, by simpa [List.append_assoc] using ho, hg⟩

set_option maxRecDepth 100000 in
set_option maxHeartbeats 8000000 in
theorem rputRule_at (w : World) (v : Value) (l : List UInt8) (x : Rv) (W : World) (hx : Rv.At w x) (hi : RIn x.r) (ho : OwnB W w.heap.size v l) (hB : Below w.heap.size w W) (hr : (l ++ ruleB x.r).length ≤ 100000000000000) :
    Calls Try.prog 47 #[v, rval x] W fun e w' => ∃ v', e = .returned v' ∧ OwnB w' w.heap.size v' (l ++ ruleB x.r) ∧ Grows w.heap.size W w' := by
  have mixed : Try.prog.follows .mixedOrders = true := by kernel_rfl
  have few := hx.body.few
  obtain ⟨⟨v1, ⟨a1, b1, c1⟩⟩, p, ad, cap, ts, ⟨v2, ⟨a2, b2, c2⟩⟩, ba, bc, ls⟩ := x
  obtain ⟨hx1, hx2, hx3⟩ := hx
  obtain ⟨i1, i2, i3, i4⟩ := hi
  simp only [Rv.r] at hx1 hx2 hx3 few i1 i2 i3 i4
  have hbytes : l ++ ruleB (Rv.r ⟨⟨v1, ⟨a1, b1, c1⟩⟩, p, ad, cap, ts, ⟨v2, ⟨a2, b2, c2⟩⟩, ba, bc, ls⟩) = l ++ termB ⟨v1, ⟨a1, b1, c1⟩⟩ ++ textB p ++ listB termB ts ++ termB ⟨v2, ⟨a2, b2, c2⟩⟩ ++ intB (ls.length : Int) ++ ls.flatMap (fun y => litB y.l) := by
    simp [ruleB, Rv.r, listB, List.append_assoc, List.flatMap_map]
  rw [hbytes] at hr ⊢
  clear hbytes
  have hr5 : (l ++ termB ⟨v1, ⟨a1, b1, c1⟩⟩ ++ textB p ++ listB termB ts ++ termB ⟨v2, ⟨a2, b2, c2⟩⟩ ++ intB (ls.length : Int)).length ≤ 100000000000000 := by simp only [List.length_append] at hr ⊢; omega
  have hr4 : (l ++ termB ⟨v1, ⟨a1, b1, c1⟩⟩ ++ textB p ++ listB termB ts ++ termB ⟨v2, ⟨a2, b2, c2⟩⟩).length ≤ 100000000000000 := by simp only [List.length_append] at hr5 ⊢; omega
  have hr3 : (l ++ termB ⟨v1, ⟨a1, b1, c1⟩⟩ ++ textB p ++ listB termB ts).length ≤ 100000000000000 := by simp only [List.length_append] at hr4 ⊢; omega
  have hr2 : (l ++ termB ⟨v1, ⟨a1, b1, c1⟩⟩ ++ textB p).length ≤ 100000000000000 := by simp only [List.length_append] at hr3 ⊢; omega
  have hr1 : (l ++ termB ⟨v1, ⟨a1, b1, c1⟩⟩).length ≤ 100000000000000 := by simp only [List.length_append] at hr2 ⊢; omega
  have h1 := fun (v : Value) (X : World) (h : OwnB X w.heap.size v l) (hb : w.heap.size ≤ X.heap.size) => rputTerm_at w.heap.size v l ⟨v1, ⟨a1, b1, c1⟩⟩ X h hb i1 hr1
  have h2 := fun (v : Value) (X : World) (h : OwnB X w.heap.size v _) (hb : w.heap.size ≤ X.heap.size) => rputText5_at w.heap.size v _ p X h hb hr2
  have h3 := fun (v : Value) (X : World) (h : OwnB X w.heap.size v _) (hb : Below w.heap.size w X) => rputTerms_at w v _ ad cap ts X hx1 i3 h hb hr3
  have h4 := fun (v : Value) (X : World) (h : OwnB X w.heap.size v _) (hb : w.heap.size ≤ X.heap.size) => rputTerm_at w.heap.size v _ ⟨v2, ⟨a2, b2, c2⟩⟩ X h hb i2 hr4
  have h5 := fun (v : Value) (X : World) (h : OwnB X w.heap.size v _) (hb : w.heap.size ≤ X.heap.size) => rputInt5_at w.heap.size v _ (ls.length : Int) X h hb (by omega) (by omega) hr5
  have hz := hB.size
  have H0 := heap_alloc_new W (.cells #[str v1, .bool a1, .int .i64 b1, str c1, str p, .slice ad ts.length cap, str v2, .bool a2, .int .i64 b2, str c2, .slice ba ls.length bc] 55)
  have B0 := below_alloc W (.cells #[str v1, .bool a1, .int .i64 b1, str c1, str p, .slice ad ts.length cap, str v2, .bool a2, .int .i64 b2, str c2, .slice ba ls.length bc] 55)
  have O0 := ho.below B0
  have g0 : Grows w.heap.size W _ := Grows.of_below B0 hz
  have y0 : w.heap.size ≤ (W.alloc (.cells #[str v1, .bool a1, .int .i64 b1, str c1, str p, .slice ad ts.length cap, str v2, .bool a2, .int .i64 b2, str c2, .slice ba ls.length bc] 55)).heap.size := Nat.le_trans hz B0.size
  clear hr1 hr2 hr3 hr4 hr5 B0
  go_enter Try.func47, Try.ntmps47
  go_wp2_with fail
  generalize W.alloc (.cells #[str v1, .bool a1, .int .i64 b1, str c1, str p, .slice ad ts.length cap, str v2, .bool a2, .int .i64 b2, str c2, .slice ba ls.length bc] 55) = w0 at *
  have gD : Grows w.heap.size w0 w0.drew := Grows.of_below (Below.refl _ _).drew y0
  have OD := O0.below (Below.refl w0.heap.size w0).drew
  have kk : ∀ X, Grows w.heap.size w0 X → X.cell? ⟨W.heap.size, 0, none⟩ = some (str v1) ∧ X.cell? ⟨W.heap.size, 1, none⟩ = some (.bool a1) ∧ X.cell? ⟨W.heap.size, 2, none⟩ = some (.int .i64 b1) ∧ X.cell? ⟨W.heap.size, 3, none⟩ = some (str c1) ∧ X.cell? ⟨W.heap.size, 4, none⟩ = some (str p) := fun X h => ⟨h.cell H0 (by decide) 0 rfl, h.cell H0 (by decide) 1 rfl, h.cell H0 (by decide) 2 rfl, h.cell H0 (by decide) 3 rfl, h.cell H0 (by decide) 4 rfl⟩
  go_region_held3 (fun X => X.cell? ⟨W.heap.size, 0, none⟩ = some (str v1) ∧ X.cell? ⟨W.heap.size, 1, none⟩ = some (.bool a1) ∧ X.cell? ⟨W.heap.size, 2, none⟩ = some (.int .i64 b1) ∧ X.cell? ⟨W.heap.size, 3, none⟩ = some (str c1) ∧ X.cell? ⟨W.heap.size, 4, none⟩ = some (str p)) (first | exact kk _ gD | exact kk _ g1 | exact kk _ g2)
    (first
      | (go_at_call 83; refine (h1 v w0.drew OD (Nat.le_trans y0 gD.size)).mono ?_; rintro e w1 ⟨u1, rfl, o1, j1⟩; have g1 := gD.trans j1)
      | (go_at_call 32; refine (h2 u1 w1 o1 (Nat.le_trans y0 g1.size)).mono ?_; rintro e w2 ⟨u2, rfl, o2, j2⟩; have g2 := g1.trans j2))
  have G2 := g0.trans g2
  have H2 := g2.calm _ _ _ H0 (by decide)
  have y2 : w.heap.size ≤ w2.heap.size := Nat.le_trans y0 g2.size
  clear kk gD OD g1 g2 j1 j2 o1 O0 H0 h1 h2 g0 y0
  go_wp2_with fail
  have gD : Grows w.heap.size w2 w2.drew := Grows.of_below (Below.refl _ _).drew y2
  have OD := o2.below (Below.refl w2.heap.size w2).drew
  have kk : ∀ X, Grows w.heap.size w2 X → X.cell? ⟨W.heap.size, 5, none⟩ = some (.slice ad ts.length cap) ∧ X.cell? ⟨W.heap.size, 6, none⟩ = some (str v2) ∧ X.cell? ⟨W.heap.size, 7, none⟩ = some (.bool a2) ∧ X.cell? ⟨W.heap.size, 8, none⟩ = some (.int .i64 b2) ∧ X.cell? ⟨W.heap.size, 9, none⟩ = some (str c2) := fun X h => ⟨h.cell H2 (by decide) 5 rfl, h.cell H2 (by decide) 6 rfl, h.cell H2 (by decide) 7 rfl, h.cell H2 (by decide) 8 rfl, h.cell H2 (by decide) 9 rfl⟩
  go_region_held3 (fun X => X.cell? ⟨W.heap.size, 5, none⟩ = some (.slice ad ts.length cap) ∧ X.cell? ⟨W.heap.size, 6, none⟩ = some (str v2) ∧ X.cell? ⟨W.heap.size, 7, none⟩ = some (.bool a2) ∧ X.cell? ⟨W.heap.size, 8, none⟩ = some (.int .i64 b2) ∧ X.cell? ⟨W.heap.size, 9, none⟩ = some (str c2)) (first | exact kk _ gD | exact kk _ g3 | exact kk _ g4)
    (first
      | (go_at_call 84; refine (h3 u2 w2.drew OD (hB.trans (G2.trans gD).below)).mono ?_; rintro e w3 ⟨u3, rfl, o3, j3⟩; have g3 := gD.trans j3)
      | (go_at_call 83; refine (h4 u3 w3 o3 (Nat.le_trans y2 g3.size)).mono ?_; rintro e w4 ⟨u4, rfl, o4, j4⟩; have g4 := g3.trans j4))
  have G4 := G2.trans g4
  have H4 := g4.calm _ _ _ H2 (by decide)
  have y4 : w.heap.size ≤ w4.heap.size := Nat.le_trans y2 g4.size
  clear kk gD OD g3 g4 j3 j4 o3 o2 H2 h3 h4 G2 y2
  have d10 := heap_cell H4 10
  simp at d10
  go_wp2_with fail
  refine (h5 u4 w4 o4 y4).mono ?_; rintro e w5 ⟨u5, rfl, o5, j5⟩
  have G5 := G4.trans j5
  have H5 := j5.calm _ _ _ H4 (by decide)
  clear d10 H4 G4 y4 o4 j5 h5
  generalize hLL : l ++ termB ⟨v1, ⟨a1, b1, c1⟩⟩ ++ textB p ++ listB termB ts ++ termB ⟨v2, ⟨a2, b2, c2⟩⟩ ++ intB (ls.length : Int) = L at *
  have HLL := hideP hLL; clear hLL
  go_wp2_with fail
  go_loopw [0, 5, 6] (fun v0 v5 _ wr => ∃ k : Nat, v5 = .int .i64 (k : Int) ∧ k ≤ ls.length ∧ OwnB wr w.heap.size v0 (L ++ (ls.take k).flatMap (fun y => litB y.l)) ∧ wr.heap[W.heap.size]? = some (.cells #[str v1, .bool a1, .int .i64 b1, str c1, str p, .slice ad ts.length cap, str v2, .bool a2, .int .i64 b2, str c2, .slice ba ls.length bc] 55) ∧ Grows w.heap.size W wr) (fun _ v5 _ _ => ls.length - (intOf v5).toNat)
  case atStart => exact ⟨0, rfl, by omega, by simpa using o5, H5, G5⟩
  case round =>
    obtain ⟨k, rfl, hk, ho, HW, hg⟩ := hrel
    have hb : Below w.heap.size w wr := hB.trans hg.below
    have d10 := heap_cell HW 10
    simp at d10
    by_cases hlt : k < ls.length
    · have q2 : (k : Int) < (ls.length : Int) := by omega
      obtain ⟨P1, O1, rfl⟩ := hx2.addr (Nat.lt_of_le_of_lt (Nat.zero_le _) hlt)
      have r1 : wr.rangeAt P1 (O1 + k * 10) (lv (ls[k]'hlt)) := (hx2.below hb (Nat.le_refl _)).range k hlt
      have aP := hx3 _ (List.getElem_mem hlt)
      have iP0 := i4 _ (List.mem_map_of_mem (List.getElem_mem hlt))
      have hst := hideP (take_bytes (fun y : Lv => litB y.l) ls k hlt)
      have hl1 := parts_len (fun y : Lv => litB y.l) L ls k hlt hr
      generalize (ls[k]'hlt) = P at *
      obtain ⟨⟨m1, ⟨n1, o1, p1⟩⟩, pr, aa, ca, us, ⟨m2, ⟨n2, o2, p2⟩⟩⟩ := P
      have aP : Row tK w aa ca us := aP
      obtain ⟨k1, k2, k3⟩ := iP0
      simp only [Lv.l] at k1 k2 k3
      generalize hLk : L ++ (ls.take k).flatMap (fun y => litB y.l) = Lk at *
      have hbytes : Lk ++ litB (Lv.l ⟨⟨m1, ⟨n1, o1, p1⟩⟩, pr, aa, ca, us, ⟨m2, ⟨n2, o2, p2⟩⟩⟩) = Lk ++ termB ⟨m1, ⟨n1, o1, p1⟩⟩ ++ textB pr ++ listB termB us ++ termB ⟨m2, ⟨n2, o2, p2⟩⟩ := by
        simp [litB, Lv.l, List.append_assoc]
      have hs4 : (Lk ++ termB ⟨m1, ⟨n1, o1, p1⟩⟩ ++ textB pr ++ listB termB us ++ termB ⟨m2, ⟨n2, o2, p2⟩⟩).length ≤ 100000000000000 := by rw [← hbytes]; exact hl1
      have hs3 : (Lk ++ termB ⟨m1, ⟨n1, o1, p1⟩⟩ ++ textB pr ++ listB termB us).length ≤ 100000000000000 := by simp only [List.length_append] at hs4 ⊢; omega
      have hs2 : (Lk ++ termB ⟨m1, ⟨n1, o1, p1⟩⟩ ++ textB pr).length ≤ 100000000000000 := by simp only [List.length_append] at hs3 ⊢; omega
      have hs1 : (Lk ++ termB ⟨m1, ⟨n1, o1, p1⟩⟩).length ≤ 100000000000000 := by simp only [List.length_append] at hs2 ⊢; omega
      have HBy := hideP hbytes
      have HLk := hideP hLk
      clear hbytes hLk hl1 hr hx1 i1 i2 i3
      have h1 := fun (v : Value) (X : World) (h : OwnB X w.heap.size v Lk) (hb : w.heap.size ≤ X.heap.size) => rputTerm_at w.heap.size v Lk ⟨m1, ⟨n1, o1, p1⟩⟩ X h hb k1 hs1
      have h2 := fun (v : Value) (X : World) (h : OwnB X w.heap.size v _) (hb : w.heap.size ≤ X.heap.size) => rputText5_at w.heap.size v _ pr X h hb hs2
      have h3 := fun (v : Value) (X : World) (h : OwnB X w.heap.size v _) (hb : Below w.heap.size w X) => rputTerms_at w v _ aa ca us X aP k3 h hb hs3
      have h4 := fun (v : Value) (X : World) (h : OwnB X w.heap.size v _) (hb : w.heap.size ≤ X.heap.size) => rputTerm_at w.heap.size v _ ⟨m2, ⟨n2, o2, p2⟩⟩ X h hb k2 hs4
      clear hs1 hs2 hs3 hs4
      have hF : ∀ (X Y : World) (o : Obj), But X.heap.size (X.alloc o) Y → Below X.heap.size X Y := fun X Y o d => (below_alloc X o).trans (d.lower (Nat.le_refl _) (by simp))
      have iN : (Try.prog.info? 80).map (·.size) = some 10 := by kernel_rfl
      have iP : (Try.prog.info? 80).map (·.size) = some (lv ⟨⟨m1, ⟨n1, o1, p1⟩⟩, pr, aa, ca, us, ⟨m2, ⟨n2, o2, p2⟩⟩⟩).length := iN
      go_upto_region 8 with (first
        | (refine wpList_load_mid rfl 80 _ rfl P1 (O1 + k * 10) rfl (lv ⟨⟨m1, ⟨n1, o1, p1⟩⟩, pr, aa, ca, us, ⟨m2, ⟨n2, o2, p2⟩⟩⟩) _ r1 Try.underlying80 rfl iP ?_)
        | (refine wpList_store_all rfl 80 _ _ rfl wr.heap.size 10 _ 80 (lv ⟨⟨m1, ⟨n1, o1, p1⟩⟩, pr, aa, ca, us, ⟨m2, ⟨n2, o2, p2⟩⟩⟩) rfl rfl (heap_alloc_new wr _) rfl rfl iN rfl ?_; intro w0 H0 d4; have B0 := hF wr w0 _ d4))
      generalize hN : wr.heap.size = NN at *
      have O0 := ho.below (by rw [hN]; exact B0)
      have y9 : w.heap.size ≤ NN := by rw [← hN]; exact hb.size
      have g0 : Grows w.heap.size wr w0 := Grows.of_below (by rw [hN]; exact B0) (by rw [hN]; exact y9)
      have HW0 := g0.calm _ _ _ HW (by decide)
      have y0 : w.heap.size ≤ w0.heap.size := Nat.le_trans hb.size g0.size
      clear d4 r1 d10
      have gD : Grows w.heap.size w0 w0.drew := Grows.of_below (Below.refl _ _).drew y0
      have OD := O0.below (Below.refl w0.heap.size w0).drew
      have kk : ∀ X, Grows w.heap.size w0 X → X.cell? ⟨NN, 0, none⟩ = some (str m1) ∧ X.cell? ⟨NN, 1, none⟩ = some (.bool n1) ∧ X.cell? ⟨NN, 2, none⟩ = some (.int .i64 o1) ∧ X.cell? ⟨NN, 3, none⟩ = some (str p1) ∧ X.cell? ⟨NN, 4, none⟩ = some (str pr) := fun X h => ⟨h.cell H0 (by decide) 0 rfl, h.cell H0 (by decide) 1 rfl, h.cell H0 (by decide) 2 rfl, h.cell H0 (by decide) 3 rfl, h.cell H0 (by decide) 4 rfl⟩
      go_region_held3 (fun X => X.cell? ⟨NN, 0, none⟩ = some (str m1) ∧ X.cell? ⟨NN, 1, none⟩ = some (.bool n1) ∧ X.cell? ⟨NN, 2, none⟩ = some (.int .i64 o1) ∧ X.cell? ⟨NN, 3, none⟩ = some (str p1) ∧ X.cell? ⟨NN, 4, none⟩ = some (str pr)) (first | exact kk _ gD | exact kk _ g1 | exact kk _ g2)
        (first
          | (go_at_call 83; refine (h1 _ w0.drew OD (Nat.le_trans y0 gD.size)).mono ?_; rintro e w1 ⟨t1, rfl, o1', j1⟩; have g1 := gD.trans j1)
          | (go_at_call 32; refine (h2 t1 w1 o1' (Nat.le_trans y0 g1.size)).mono ?_; rintro e w2 ⟨t2, rfl, o2', j2⟩; have g2 := g1.trans j2))
      have G2 := (hg.trans g0).trans g2
      have H2 := g2.calm _ _ _ H0 (by decide)
      have HW2 := g2.calm _ _ _ HW0 (by decide)
      have y2 : w.heap.size ≤ w2.heap.size := Nat.le_trans y0 g2.size
      clear kk gD OD g1 g2 j1 j2 o1' O0 H0 h1 h2 y0
      go_wp2_with fail
      have gD : Grows w.heap.size w2 w2.drew := Grows.of_below (Below.refl _ _).drew y2
      have OD := o2'.below (Below.refl w2.heap.size w2).drew
      have kk : ∀ X, Grows w.heap.size w2 X → X.cell? ⟨NN, 5, none⟩ = some (.slice aa us.length ca) ∧ X.cell? ⟨NN, 6, none⟩ = some (str m2) ∧ X.cell? ⟨NN, 7, none⟩ = some (.bool n2) ∧ X.cell? ⟨NN, 8, none⟩ = some (.int .i64 o2) ∧ X.cell? ⟨NN, 9, none⟩ = some (str p2) := fun X h => ⟨h.cell H2 (by decide) 5 rfl, h.cell H2 (by decide) 6 rfl, h.cell H2 (by decide) 7 rfl, h.cell H2 (by decide) 8 rfl, h.cell H2 (by decide) 9 rfl⟩
      go_region_held3 (fun X => X.cell? ⟨NN, 5, none⟩ = some (.slice aa us.length ca) ∧ X.cell? ⟨NN, 6, none⟩ = some (str m2) ∧ X.cell? ⟨NN, 7, none⟩ = some (.bool n2) ∧ X.cell? ⟨NN, 8, none⟩ = some (.int .i64 o2) ∧ X.cell? ⟨NN, 9, none⟩ = some (str p2)) (first | exact kk _ gD | exact kk _ g3 | exact kk _ g4)
        (first
          | (go_at_call 84; refine (h3 t2 w2.drew OD (hB.trans (G2.trans gD).below)).mono ?_; rintro e w3 ⟨t3, rfl, o3', j3⟩; have g3 := gD.trans j3)
          | (go_at_call 83; refine (h4 t3 w3 o3' (Nat.le_trans y2 g3.size)).mono ?_; rintro e w4 ⟨t4, rfl, o4', j4⟩; have g4 := g3.trans j4))
      go_wp2_with fail
      refine ⟨⟨k + 1, by simp, by omega, ?_, g4.calm _ _ _ HW2 (by decide), G2.trans g4⟩, by simp [intOf]; omega⟩
      rw [hst.out, ← List.append_assoc, HLk.out, HBy.out]; exact o4'
    · have q2 : ¬ (k : Int) < (ls.length : Int) := by omega
      have e : ls.take k = ls := List.take_of_length_le (by omega)
      rw [e] at ho
      go_wp2_with fail
      go_ret
      rw [← HLL.out] at ho
      exact ⟨u0, rfl, by simpa [List.append_assoc] using ho, hg⟩
end Go.Proofs.Ytghhdbkgibpebaa
