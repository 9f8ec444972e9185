/-
  The program lays lists behind a row of its own.
-/
import Derived.Test.YtghhdbkgibpebaaLay2
namespace Go.Proofs.Ytghhdbkgibpebaa
open Go.RowKit Go.Sort

theorem listB_map {α β : Type} (f : β → List UInt8) (g : α → β) (xs : List α) : listB (fun x => f (g x)) xs = listB f (xs.map g) := by
  unfold listB; rw [List.length_map, List.flatMap_map]
theorem take_bytes {α : Type} (B : α → List UInt8) (xs : List α) (k : Nat) (h : k < xs.length) : (xs.take (k + 1)).flatMap B = (xs.take k).flatMap B ++ B xs[k] := by
  rw [List.take_succ_eq_append_getElem h, List.flatMap_append]; simp
theorem part_len {α : Type} (B : α → List UInt8) (l : List UInt8) (xs : List α) (k N : Nat) (h : (l ++ listB B xs).length ≤ N) : (l ++ intB (xs.length : Int) ++ (xs.take k).flatMap B).length ≤ N := by
  refine Nat.le_trans ?_ h
  have e : xs.flatMap B = (xs.take k).flatMap B ++ (xs.drop k).flatMap B := by rw [← List.flatMap_append, List.take_append_drop]
  unfold listB
  rw [e]
  simp only [List.length_append]; omega


set_option maxRecDepth 100000 in
set_option maxHeartbeats 4000000 in
theorem appendListConst_at (w0 : World) (v : Value) (l : List UInt8) (a : Option Addr) (c : Nat) (xs : List K) (w : World) (hx : Row kK w0 a c xs)
    (hF : ∀ x ∈ xs, ∀ (v : Value) (l : List UInt8) (W : World), OwnB W w0.heap.size v l → Below w0.heap.size w0 W → (l ++ constB x).length ≤ 140737488355328 →
      Calls Try.prog 64 #[v, kval x] W fun e w' => ∃ v', e = .returned v' ∧ OwnB w' w0.heap.size v' (l ++ constB x) ∧ Grows w0.heap.size W w')
    (hown : OwnB w w0.heap.size v l) (hw : Below w0.heap.size w0 w) (hr : (l ++ listB constB xs).length ≤ 140737488355328) :
    Calls Try.prog 63 #[v, .slice a xs.length c, .func (.func 64) #[] #[]] w fun e w' => ∃ v', e = .returned v' ∧ OwnB w' w0.heap.size v' (l ++ listB constB xs) ∧ Grows w0.heap.size w w' := by
  have eg : ∀ args w, (callFunc 64 args).run Try.prog w = .ok (.enter 64 args) w := enters_of Try.func64 (by kernel_rfl) rfl
  have few := hx.few
  have hp := fun k => part_len constB l xs k _ hr
  have hst := take_bytes constB xs
  have hall : l ++ listB constB xs = l ++ intB (xs.length : Int) ++ xs.flatMap constB := by unfold listB; rw [List.append_assoc]
  have hI := appendInt5_at w0.heap.size v l (xs.length : Int) w hown hw.size (by omega) (by omega) (by have := hp 0; simpa using this)
  rw [hall]
  have Hp := hideP hp; have Hst := hideP hst; clear hp hst hall hr hown
  generalize l ++ intB (xs.length : Int) = L at *
  go_enter Try.func63, Try.ntmps63
  go_wp2_with fail
  refine hI.mono ?_; rintro e w1 ⟨v1, rfl, o1, g1⟩
  clear hI
  go_wp2_with fail
  go_loopw [0, 8, 15] (fun v0 _ v15 wr => ∃ k : Nat, v15 = .int .i64 (k : Int) ∧ k ≤ xs.length ∧ OwnB wr w0.heap.size v0 (L ++ (xs.take k).flatMap constB) ∧ Grows w0.heap.size w wr) (fun _ _ v15 _ => xs.length - (intOf v15).toNat)
  case atStart => exact ⟨0, rfl, by omega, by simpa using o1, g1⟩
  case round =>
    obtain ⟨k, rfl, hk, ho, hg⟩ := hrel
    have hb := hw.trans hg.below
    by_cases hlt : k < xs.length
    · have q2 : (k : Int) < (xs.length : Int) := by omega
      obtain ⟨P1, O1, rfl⟩ := hx.addr (Nat.lt_of_le_of_lt (Nat.zero_le _) hlt)
      have hR : wr.rangeAt P1 (O1 + k * 3) (kv (xs[k]'hlt)) := (hx.below hb (Nat.le_refl _)).range k hlt
      have hm := List.getElem_mem hlt
      have hs := hideP (Hst.out k hlt)
      have hl1 := Hp.out (k + 1)
      rw [Hst.out k hlt, ← List.append_assoc] at hl1
      generalize (xs[k]'hlt) = p at *
      have iK : (Try.prog.info? 49).map (·.size) = some (kv p).length := by kernel_rfl
      have iN : (Try.prog.info? 49).map (·.size) = some 3 := by kernel_rfl
      have nK : (kv p).length = 3 := rfl
      have oK : (kv p).all (·.oneCell') = true := rfl
      go_wp2_with (first
        | (refine wpList_load_mid rfl 49 _ rfl P1 (O1 + k * 3) rfl (kv p) _ hR Try.underlying49 rfl iK ?_)
        | (refine wpList_store_all rfl 49 _ _ rfl wr.heap.size 3 #[.bool false, .int .i64 0, .string .empty] 49 (kv p) rfl rfl (heap_alloc_new wr _) rfl nK iN oK ?_; intro w2 H2 b2)
        | (refine wpList_load_all rfl 49 _ rfl wr.heap.size 3 49 (kv p) _ rfl H2 nK Try.underlying49 rfl iN ?_))
      have B2 : Below wr.heap.size wr w2 := (below_alloc wr _).trans (b2.lower (Nat.le_refl _) (by simp))
      refine (hF p hm _ _ w2 (ho.below B2) (hb.trans (B2.mono (Nat.le_trans hw.size hg.size))) hl1).mono ?_; rintro e w3 ⟨v3, rfl, o3, g3⟩
      go_wp2_with fail
      refine ⟨⟨k + 1, by simp, by omega, ?_, (hg.trans (Grows.of_below B2 (Nat.le_trans hw.size hg.size))).trans g3⟩, by simp [intOf]; omega⟩
      rw [hs.out, ← List.append_assoc]; exact o3
    · have q2 : ¬ (k : Int) < (xs.length : Int) := by omega
      have e : xs.take k = xs := List.take_of_length_le (by omega)
      rw [e] at ho
      go_wp2_with fail
      go_ret
      exact ⟨u0, rfl, ho, hg⟩


set_option maxRecDepth 100000 in
set_option maxHeartbeats 4000000 in
theorem appendListTerm_at (w0 : World) (v : Value) (l : List UInt8) (a : Option Addr) (c : Nat) (xs : List Tm) (w : World) (hx : Row tK w0 a c xs)
    (hF : ∀ x ∈ xs, ∀ (v : Value) (l : List UInt8) (W : World), OwnB W w0.heap.size v l → Below w0.heap.size w0 W → (l ++ termB x).length ≤ 140737488355328 →
      Calls Try.prog 77 #[v, tval x] W fun e w' => ∃ v', e = .returned v' ∧ OwnB w' w0.heap.size v' (l ++ termB x) ∧ Grows w0.heap.size W w')
    (hown : OwnB w w0.heap.size v l) (hw : Below w0.heap.size w0 w) (hr : (l ++ listB termB xs).length ≤ 140737488355328) :
    Calls Try.prog 78 #[v, .slice a xs.length c, .func (.func 77) #[] #[]] w fun e w' => ∃ v', e = .returned v' ∧ OwnB w' w0.heap.size v' (l ++ listB termB xs) ∧ Grows w0.heap.size w w' := by
  have eg : ∀ args w, (callFunc 77 args).run Try.prog w = .ok (.enter 77 args) w := enters_of Try.func77 (by kernel_rfl) rfl
  have few := hx.few
  have hp := fun k => part_len termB l xs k _ hr
  have hst := take_bytes termB xs
  have hall : l ++ listB termB xs = l ++ intB (xs.length : Int) ++ xs.flatMap termB := by unfold listB; rw [List.append_assoc]
  have hI := appendInt5_at w0.heap.size v l (xs.length : Int) w hown hw.size (by omega) (by omega) (by have := hp 0; simpa using this)
  rw [hall]
  have Hp := hideP hp; have Hst := hideP hst; clear hp hst hall hr hown
  generalize l ++ intB (xs.length : Int) = L at *
  go_enter Try.func78, Try.ntmps78
  go_wp2_with fail
  refine hI.mono ?_; rintro e w1 ⟨v1, rfl, o1, g1⟩
  clear hI
  go_wp2_with fail
  go_loopw [0, 8, 15] (fun v0 _ v15 wr => ∃ k : Nat, v15 = .int .i64 (k : Int) ∧ k ≤ xs.length ∧ OwnB wr w0.heap.size v0 (L ++ (xs.take k).flatMap termB) ∧ Grows w0.heap.size w wr) (fun _ _ v15 _ => xs.length - (intOf v15).toNat)
  case atStart => exact ⟨0, rfl, by omega, by simpa using o1, g1⟩
  case round =>
    obtain ⟨k, rfl, hk, ho, hg⟩ := hrel
    have hb := hw.trans hg.below
    by_cases hlt : k < xs.length
    · have q2 : (k : Int) < (xs.length : Int) := by omega
      obtain ⟨P1, O1, rfl⟩ := hx.addr (Nat.lt_of_le_of_lt (Nat.zero_le _) hlt)
      have hR : wr.rangeAt P1 (O1 + k * 4) (tv (xs[k]'hlt)) := (hx.below hb (Nat.le_refl _)).range k hlt
      have hm := List.getElem_mem hlt
      have hs := hideP (Hst.out k hlt)
      have hl1 := Hp.out (k + 1)
      rw [Hst.out k hlt, ← List.append_assoc] at hl1
      generalize (xs[k]'hlt) = p at *
      have iK : (Try.prog.info? 51).map (·.size) = some (tv p).length := by kernel_rfl
      have iN : (Try.prog.info? 51).map (·.size) = some 4 := by kernel_rfl
      have nK : (tv p).length = 4 := rfl
      have oK : (tv p).all (·.oneCell') = true := rfl
      go_wp2_with (first
        | (refine wpList_load_mid rfl 51 _ rfl P1 (O1 + k * 4) rfl (tv p) _ hR Try.underlying51 rfl iK ?_)
        | (refine wpList_store_all rfl 51 _ _ rfl wr.heap.size 4 #[.string .empty, .bool false, .int .i64 0, .string .empty] 51 (tv p) rfl rfl (heap_alloc_new wr _) rfl nK iN oK ?_; intro w2 H2 b2)
        | (refine wpList_load_all rfl 51 _ rfl wr.heap.size 4 51 (tv p) _ rfl H2 nK Try.underlying51 rfl iN ?_))
      have B2 : Below wr.heap.size wr w2 := (below_alloc wr _).trans (b2.lower (Nat.le_refl _) (by simp))
      refine (hF p hm _ _ w2 (ho.below B2) (hb.trans (B2.mono (Nat.le_trans hw.size hg.size))) hl1).mono ?_; rintro e w3 ⟨v3, rfl, o3, g3⟩
      go_wp2_with fail
      refine ⟨⟨k + 1, by simp, by omega, ?_, (hg.trans (Grows.of_below B2 (Nat.le_trans hw.size hg.size))).trans g3⟩, by simp [intOf]; omega⟩
      rw [hs.out, ← List.append_assoc]; exact o3
    · have q2 : ¬ (k : Int) < (xs.length : Int) := by omega
      have e : xs.take k = xs := List.take_of_length_le (by omega)
      rw [e] at ho
      go_wp2_with fail
      go_ret
      exact ⟨u0, rfl, ho, hg⟩

end Go.Proofs.Ytghhdbkgibpebaa

/-
  The program lays lists behind a row of its own.
-/
namespace Go.Proofs.Ytghhdbkgibpebaa
open Go.RowKit Go.Sort

set_option maxRecDepth 100000 in
set_option maxHeartbeats 4000000 in
theorem appendListLiteral_at (w0 : World) (v : Value) (l : List UInt8) (a : Option Addr) (c : Nat) (xs : List Lv) (w : World) (hx : Row lK w0 a c xs)
    (hF : ∀ x ∈ xs, ∀ (v : Value) (l : List UInt8) (W : World), OwnB W w0.heap.size v l → Below w0.heap.size w0 W → (l ++ (fun y : Lv => litB y.l) x).length ≤ 140737488355328 →
      Calls Try.prog 80 #[v, lval x] W fun e w' => ∃ v', e = .returned v' ∧ OwnB w' w0.heap.size v' (l ++ (fun y : Lv => litB y.l) x) ∧ Grows w0.heap.size W w')
    (hown : OwnB w w0.heap.size v l) (hw : Below w0.heap.size w0 w) (hr : (l ++ listB (fun y : Lv => litB y.l) xs).length ≤ 140737488355328) :
    Calls Try.prog 79 #[v, .slice a xs.length c, .func (.func 80) #[] #[]] w fun e w' => ∃ v', e = .returned v' ∧ OwnB w' w0.heap.size v' (l ++ listB (fun y : Lv => litB y.l) xs) ∧ Grows w0.heap.size w w' := by
  have eg : ∀ args w, (callFunc 80 args).run Try.prog w = .ok (.enter 80 args) w := enters_of Try.func80 (by kernel_rfl) rfl
  have few := hx.few
  have hp := fun k => part_len (fun y : Lv => litB y.l) l xs k _ hr
  have hst := take_bytes (fun y : Lv => litB y.l) xs
  have hall : l ++ listB (fun y : Lv => litB y.l) xs = l ++ intB (xs.length : Int) ++ xs.flatMap (fun y : Lv => litB y.l) := by unfold listB; rw [List.append_assoc]
  have hI := appendInt5_at w0.heap.size v l (xs.length : Int) w hown hw.size (by omega) (by omega) (by have := hp 0; simpa using this)
  rw [hall]
  have Hp := hideP hp; have Hst := hideP hst; clear hp hst hall hr hown
  generalize l ++ intB (xs.length : Int) = L at *
  go_enter Try.func79, Try.ntmps79
  go_wp2_with fail
  refine hI.mono ?_; rintro e w1 ⟨v1, rfl, o1, g1⟩
  clear hI
  go_wp2_with fail
  go_loopw [0, 8, 15] (fun v0 _ v15 wr => ∃ k : Nat, v15 = .int .i64 (k : Int) ∧ k ≤ xs.length ∧ OwnB wr w0.heap.size v0 (L ++ (xs.take k).flatMap (fun y : Lv => litB y.l)) ∧ Grows w0.heap.size w wr) (fun _ _ v15 _ => xs.length - (intOf v15).toNat)
  case atStart => exact ⟨0, rfl, by omega, by simpa using o1, g1⟩
  case round =>
    obtain ⟨k, rfl, hk, ho, hg⟩ := hrel
    have hb := hw.trans hg.below
    by_cases hlt : k < xs.length
    · have q2 : (k : Int) < (xs.length : Int) := by omega
      obtain ⟨P1, O1, rfl⟩ := hx.addr (Nat.lt_of_le_of_lt (Nat.zero_le _) hlt)
      have hR : wr.rangeAt P1 (O1 + k * 10) (lv (xs[k]'hlt)) := (hx.below hb (Nat.le_refl _)).range k hlt
      have hm := List.getElem_mem hlt
      have hs := hideP (Hst.out k hlt)
      have hl1 := Hp.out (k + 1)
      rw [Hst.out k hlt, ← List.append_assoc] at hl1
      generalize (xs[k]'hlt) = p at *
      have iK : (Try.prog.info? 80).map (·.size) = some (lv p).length := by kernel_rfl
      have iN : (Try.prog.info? 80).map (·.size) = some 10 := by kernel_rfl
      have nK : (lv p).length = 10 := rfl
      have oK : (lv p).all (·.oneCell') = true := rfl
      go_wp2_with (first
        | (refine wpList_load_mid rfl 80 _ rfl P1 (O1 + k * 10) rfl (lv p) _ hR Try.underlying80 rfl iK ?_)
        | (refine wpList_store_all rfl 80 _ _ rfl wr.heap.size 10 #[.string .empty, .bool false, .int .i64 0, .string .empty, .string .empty, .slice none 0 0, .string .empty, .bool false, .int .i64 0, .string .empty] 80 (lv p) rfl rfl (heap_alloc_new wr _) rfl nK iN oK ?_; intro w2 H2 b2)
        | (refine wpList_load_all rfl 80 _ rfl wr.heap.size 10 80 (lv p) _ rfl H2 nK Try.underlying80 rfl iN ?_))
      have B2 : Below wr.heap.size wr w2 := (below_alloc wr _).trans (b2.lower (Nat.le_refl _) (by simp))
      refine (hF p hm _ _ w2 (ho.below B2) (hb.trans (B2.mono (Nat.le_trans hw.size hg.size))) hl1).mono ?_; rintro e w3 ⟨v3, rfl, o3, g3⟩
      go_wp2_with fail
      refine ⟨⟨k + 1, by simp, by omega, ?_, (hg.trans (Grows.of_below B2 (Nat.le_trans hw.size hg.size))).trans g3⟩, by simp [intOf]; omega⟩
      rw [hs.out, ← List.append_assoc]; exact o3
    · have q2 : ¬ (k : Int) < (xs.length : Int) := by omega
      have e : xs.take k = xs := List.take_of_length_le (by omega)
      rw [e] at ho
      go_wp2_with fail
      go_ret
      exact ⟨u0, rfl, ho, hg⟩

end Go.Proofs.Ytghhdbkgibpebaa

/-
  The program lays lists behind a row of its own.
-/
namespace Go.Proofs.Ytghhdbkgibpebaa
open Go.RowKit Go.Sort

set_option maxRecDepth 100000 in
set_option maxHeartbeats 4000000 in
theorem appendListRule_at (w0 : World) (v : Value) (l : List UInt8) (a : Option Addr) (c : Nat) (xs : List Rv) (w : World) (hx : Row rK w0 a c xs)
    (hF : ∀ x ∈ xs, ∀ (v : Value) (l : List UInt8) (W : World), OwnB W w0.heap.size v l → Below w0.heap.size w0 W → (l ++ (fun y : Rv => ruleB y.r) x).length ≤ 140737488355328 →
      Calls Try.prog 45 #[v, rval x] W fun e w' => ∃ v', e = .returned v' ∧ OwnB w' w0.heap.size v' (l ++ (fun y : Rv => ruleB y.r) x) ∧ Grows w0.heap.size W w')
    (hown : OwnB w w0.heap.size v l) (hw : Below w0.heap.size w0 w) (hr : (l ++ listB (fun y : Rv => ruleB y.r) xs).length ≤ 140737488355328) :
    Calls Try.prog 44 #[v, .slice a xs.length c, .func (.func 45) #[] #[]] w fun e w' => ∃ v', e = .returned v' ∧ OwnB w' w0.heap.size v' (l ++ listB (fun y : Rv => ruleB y.r) xs) ∧ Grows w0.heap.size w w' := by
  have eg : ∀ args w, (callFunc 45 args).run Try.prog w = .ok (.enter 45 args) w := enters_of Try.func45 (by kernel_rfl) rfl
  have few := hx.few
  have hp := fun k => part_len (fun y : Rv => ruleB y.r) l xs k _ hr
  have hst := take_bytes (fun y : Rv => ruleB y.r) xs
  have hall : l ++ listB (fun y : Rv => ruleB y.r) xs = l ++ intB (xs.length : Int) ++ xs.flatMap (fun y : Rv => ruleB y.r) := by unfold listB; rw [List.append_assoc]
  have hI := appendInt5_at w0.heap.size v l (xs.length : Int) w hown hw.size (by omega) (by omega) (by have := hp 0; simpa using this)
  rw [hall]
  have Hp := hideP hp; have Hst := hideP hst; clear hp hst hall hr hown
  generalize l ++ intB (xs.length : Int) = L at *
  go_enter Try.func44, Try.ntmps44
  go_wp2_with fail
  refine hI.mono ?_; rintro e w1 ⟨v1, rfl, o1, g1⟩
  clear hI
  go_wp2_with fail
  go_loopw [0, 8, 15] (fun v0 _ v15 wr => ∃ k : Nat, v15 = .int .i64 (k : Int) ∧ k ≤ xs.length ∧ OwnB wr w0.heap.size v0 (L ++ (xs.take k).flatMap (fun y : Rv => ruleB y.r)) ∧ Grows w0.heap.size w wr) (fun _ _ v15 _ => xs.length - (intOf v15).toNat)
  case atStart => exact ⟨0, rfl, by omega, by simpa using o1, g1⟩
  case round =>
    obtain ⟨k, rfl, hk, ho, hg⟩ := hrel
    have hb := hw.trans hg.below
    by_cases hlt : k < xs.length
    · have q2 : (k : Int) < (xs.length : Int) := by omega
      obtain ⟨P1, O1, rfl⟩ := hx.addr (Nat.lt_of_le_of_lt (Nat.zero_le _) hlt)
      have hR : wr.rangeAt P1 (O1 + k * 11) (rv (xs[k]'hlt)) := (hx.below hb (Nat.le_refl _)).range k hlt
      have hm := List.getElem_mem hlt
      have hs := hideP (Hst.out k hlt)
      have hl1 := Hp.out (k + 1)
      rw [Hst.out k hlt, ← List.append_assoc] at hl1
      generalize (xs[k]'hlt) = p at *
      have iK : (Try.prog.info? 55).map (·.size) = some (rv p).length := by kernel_rfl
      have iN : (Try.prog.info? 55).map (·.size) = some 11 := by kernel_rfl
      have nK : (rv p).length = 11 := rfl
      have oK : (rv p).all (·.oneCell') = true := rfl
      go_wp2_with (first
        | (refine wpList_load_mid rfl 55 _ rfl P1 (O1 + k * 11) rfl (rv p) _ hR Try.underlying55 rfl iK ?_)
        | (refine wpList_store_all rfl 55 _ _ rfl wr.heap.size 11 #[.string .empty, .bool false, .int .i64 0, .string .empty, .string .empty, .slice none 0 0, .string .empty, .bool false, .int .i64 0, .string .empty, .slice none 0 0] 55 (rv p) rfl rfl (heap_alloc_new wr _) rfl nK iN oK ?_; intro w2 H2 b2)
        | (refine wpList_load_all rfl 55 _ rfl wr.heap.size 11 55 (rv p) _ rfl H2 nK Try.underlying55 rfl iN ?_))
      have B2 : Below wr.heap.size wr w2 := (below_alloc wr _).trans (b2.lower (Nat.le_refl _) (by simp))
      refine (hF p hm _ _ w2 (ho.below B2) (hb.trans (B2.mono (Nat.le_trans hw.size hg.size))) hl1).mono ?_; rintro e w3 ⟨v3, rfl, o3, g3⟩
      go_wp2_with fail
      refine ⟨⟨k + 1, by simp, by omega, ?_, (hg.trans (Grows.of_below B2 (Nat.le_trans hw.size hg.size))).trans g3⟩, by simp [intOf]; omega⟩
      rw [hs.out, ← List.append_assoc]; exact o3
    · have q2 : ¬ (k : Int) < (xs.length : Int) := by omega
      have e : xs.take k = xs := List.take_of_length_le (by omega)
      rw [e] at ho
      go_wp2_with fail
      go_ret
      exact ⟨u0, rfl, ho, hg⟩

end Go.Proofs.Ytghhdbkgibpebaa
