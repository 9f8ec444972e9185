/-
  The reference's Encode.
-/
import Derived.Test.YtghhdbkgibpebaaRp2
import Derived.Test.YtghhdbkgibpebaaRt2
namespace Go.Proofs.Ytghhdbkgibpebaa
open Go.RowKit Go.Sort

set_option maxRecDepth 100000 in
set_option maxHeartbeats 8000000 in
theorem rencode_at (a : Option Addr) (c : Nat) (xs : List Rv) (w : World) (hx : Row rK w a c xs) (ax : ∀ x ∈ xs, Rv.At w x) (hi : ∀ x ∈ xs, RIn x.r) :
    Calls Try.prog 22 #[.slice a xs.length c] w fun e w' => ∃ v', e = .returned (.tuple #[v', .int .i64 (encE xs.length (xs.all fun x => mayR x.r))]) ∧ OwnB w' w.heap.size v' (if encE xs.length (xs.all fun x => mayR x.r) = 0 then progB (xs.map Rv.r) else []) ∧ Below w.heap.size w w' := by
  have few := hx.few
  have hP : progB (xs.map Rv.r) = intB (xs.length : Int) ++ xs.flatMap (fun y : Rv => ruleB y.r) := by simp [progB, listB, List.flatMap_map]
  rw [hP]; clear hP
  generalize hok : (xs.all fun x => mayR x.r) = ok
  have HOK := hideP hok; clear hok
  generalize hEE : encE xs.length ok = E
  have iN : (Try.prog.info? 55).map (·.size) = some 11 := by kernel_rfl
  by_cases hb : (768 : Int) < (xs.length : Int)
  · have e1 : E = 3 := by rw [← hEE]; unfold encE; rw [if_pos (by omega)]
    clear hEE
    subst e1
    go_enter Try.func22, Try.ntmps22
    go_wp2_with fail
    go_ret2
    exact ⟨_, rfl, OwnB.nil _ _, Below.refl _ _⟩
  have hlen : ∀ k (hk : k < xs.length), (∀ j (h1 : j < xs.length), j < k + 1 → mayR xs[j].r = true) → (intB (xs.length : Int) ++ (xs.take k).flatMap (fun y : Rv => ruleB y.r) ++ ruleB xs[k].r).length ≤ 100000000000000 := fun k hk h => by
    have a1 := prog_len (l := (xs.take (k + 1)).map Rv.r) (fun r hr => by obtain ⟨x, hx, rfl⟩ := List.mem_map.1 hr; exact hi x (List.mem_of_mem_take hx)) (by rw [List.length_map, List.length_take]; omega) (List.all_eq_true.2 fun r hr => by
      obtain ⟨x, hx, rfl⟩ := List.mem_map.1 hr
      obtain ⟨j, hj, rfl⟩ := List.getElem_of_mem hx
      rw [List.length_take] at hj
      rw [List.getElem_take]
      exact h j (by omega) (by omega))
    have a2 := int_len (n := (xs.length : Int)) (by omega) (by omega)
    unfold progB listB at a1
    rw [List.flatMap_map, take_bytes (fun y : Rv => ruleB y.r) xs k hk] at a1
    simp only [List.length_append] at a1 ⊢
    omega
  have HLe := hideP hlen; clear hlen
  have e50 : Hid (ok = false → E = 50) := fun h => by rw [← hEE, h]; unfold encE; rw [if_neg (by omega)]; rfl
  have e0 : Hid (ok = true → E = 0) := fun h => by rw [← hEE, h]; unfold encE; rw [if_neg (by omega)]; rfl
  clear hEE
  have i0 := int_len (n := (xs.length : Int)) (by omega) (by omega)
  have hT := fun (x : Rv) (W : World) (h : Rv.At W x) => right_at x W h
  go_enter Try.func22, Try.ntmps22
  go_wp2_with fail
  refine (rputInt5_at w.heap.size (.slice none 0 0) [] (xs.length : Int) w (OwnB.nil w _) (Nat.le_refl _) (by omega) (by omega) (by simp; omega)).mono ?_; rintro e w1 ⟨v1, rfl, o1, g1⟩
  rw [List.nil_append] at o1
  have B1 : Below w.heap.size w w1 := g1.below
  clear g1 i0
  go_wp2_with fail
  go_loopw [4, 5] (fun v4 v5 wr => ∃ k : Nat, v5 = .int .i64 (k : Int) ∧ k ≤ xs.length ∧ OwnB wr w.heap.size v4 (intB (xs.length : Int) ++ (xs.take k).flatMap (fun y : Rv => ruleB y.r)) ∧ Hid (∀ j (h1 : j < xs.length), j < k → mayR xs[j].r = true) ∧ Below w.heap.size w wr) (fun _ v5 _ => xs.length - (intOf v5).toNat)
  case atStart => exact ⟨0, rfl, by omega, by simpa using o1, fun j _ h => absurd h (by omega), B1⟩
  case round =>
    obtain ⟨k, rfl, hk, ho, hev, hg⟩ := hrel
    by_cases hlt : k < xs.length
    · have q2 : (k : Int) < (xs.length : Int) := by omega
      obtain ⟨P1, O1, rfl⟩ := hx.addr (Nat.lt_of_le_of_lt (Nat.zero_le _) hlt)
      have r0 : ∀ X, Below w.heap.size w X → X.rangeAt P1 (O1 + k * 11) (rv (xs[k]'hlt)) := fun X h => (hx.below h (Nat.le_refl _)).range k hlt
      have aP := ax _ (List.getElem_mem hlt)
      have iP0 := hi _ (List.getElem_mem hlt)
      have hst := hideP (take_bytes (fun y : Rv => ruleB y.r) xs k hlt)
      have hgood : Hid (mayR (xs[k]'hlt).r = true → ∀ j (h1 : j < xs.length), j < k + 1 → mayR xs[j].r = true) := fun h j h1 hj => by
        by_cases e : j = k
        · subst e; exact h
        · exact hev.out j h1 (by omega)
      have hl1 : Hid (mayR (xs[k]'hlt).r = true → (intB (xs.length : Int) ++ (xs.take k).flatMap (fun y : Rv => ruleB y.r) ++ ruleB (xs[k]'hlt).r).length ≤ 100000000000000) := fun h => HLe.out k hlt (hgood.out h)
      have hbad : Hid (mayR (xs[k]'hlt).r = false → ok = false) := fun h => by
        rw [← HOK.out, List.all_eq_false]; exact ⟨_, List.getElem_mem hlt, by rw [h]; simp⟩
      generalize (xs[k]'hlt) = P at *
      generalize hLk : intB (xs.length : Int) ++ (xs.take k).flatMap (fun y : Rv => ruleB y.r) = Lk at *
      have HLk := hideP hLk; clear hLk
      have iP : (Try.prog.info? 55).map (·.size) = some (rv P).length := iN
      have r1 := r0 wr hg
      have hT' := hT P wr (aP.below hg (Nat.le_refl _))
      cases hm : mayR P.r
      · rw [hm] at hT'
        have hbb := e50.out (hbad.out hm)
        clear e50 e0
        subst hbb
        go_wp2_with (refine wpList_load_mid rfl 55 _ rfl P1 (O1 + k * 11) rfl (rv P) _ r1 Try.underlying55 rfl iP ?_)
        refine hT'.mono ?_; rintro e w2 ⟨rfl, b2⟩
        go_wp2_with fail
        go_ret2
        exact ⟨_, rfl, OwnB.nil _ _, Below.then hg b2⟩
      · rw [hm] at hT'
        have hg2 := hideP (hgood.out hm)
        have hle := hl1.out hm
        go_wp2_with (refine wpList_load_mid rfl 55 _ rfl P1 (O1 + k * 11) rfl (rv P) _ r1 Try.underlying55 rfl iP ?_)
        refine hT'.mono ?_; rintro e w2 ⟨rfl, b2⟩
        have G2 := Below.then hg b2
        have o2 := ho.below b2
        have r2 := r0 w2 G2
        clear r1 b2 ho
        go_wp2_with (refine wpList_load_mid rfl 55 _ rfl P1 (O1 + k * 11) rfl (rv P) _ r2 Try.underlying55 rfl iP ?_)
        refine (rputRule_at w _ Lk P w2 aP iP0 o2 G2 hle).mono ?_; rintro e w3 ⟨v3, rfl, o3, g3⟩
        go_wp2_with fail
        refine ⟨⟨k + 1, by simp, by omega, ?_, hg2, G2.trans g3.below⟩, by simp [intOf]; omega⟩
        rw [hst.out, ← List.append_assoc, HLk.out]; exact o3
    · have q2 : ¬ (k : Int) < (xs.length : Int) := by omega
      have e : xs.take k = xs := List.take_of_length_le (by omega)
      rw [e] at ho
      have hall : (xs.all fun x => mayR x.r) = true := List.all_eq_true.2 fun x hx => by
        obtain ⟨j, hj, rfl⟩ := List.getElem_of_mem hx
        exact hev.out j hj (by omega)
      have hyes : E = 0 := e0.out (HOK.out.symm.trans hall)
      clear e50 e0
      subst hyes
      go_wp2_with fail
      go_ret2
      exact ⟨u4, rfl, ho, hg⟩
end Go.Proofs.Ytghhdbkgibpebaa
