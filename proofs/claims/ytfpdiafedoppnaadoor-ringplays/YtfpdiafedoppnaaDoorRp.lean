/-
  Names: the principals' names, in a row of their own.
-/
import Derived.Test.YtfpdiafedoppnaaDoorRo
import Derived.Test.YtfpdiafedoppnaaDoorRi
namespace Go.Proofs.YtfpdiafedoppnaaDoor
open Go.RowKit

theorem Tryd.infoStr3 : (Tryd.prog.info? 9).map (fun i => (i.zero, i.size, i.bytes)) = some (some (str []), 1, 16) := by kernel_rfl
theorem ownsRow_below {w w' : World} {base : Nat} {e : TypeId} {size : Nat} {v : Value} {n : Nat} {xs : List Value} (h : w.ownsRow base e size v n xs) (b : Below w.heap.size w w') : w'.ownsRow base e size v n xs := ownsRow_keep h (Safe.below b)
theorem own_grown {w0 w w' : World} {base : Nat} {e : TypeId} {size : Nat} {v : Value} {n : Nat} {xs : List Value} (b : Below base w0 w) (h : w.ownsRow base e size v n xs) (hg : w.grownBy w' v.ownBlock) (hs : base ≤ w.heap.size) : Below base w0 w' :=
  b.trans ((Below.refl _ _).grown hg hs fun j hj => by
    rcases h.2 with ⟨h0, _⟩ | ⟨g, cap, cur, hv, hb, _⟩
    · rw [h0] at hj; cases hj
    · rw [hv] at hj; cases hj; exact hb)

set_option maxRecDepth 100000 in
set_option maxHeartbeats 1600000 in
theorem names6 (w : World) (rb g cap bm : Nat) (seed : Int) (N : List (List UInt8)) (L : List P3) (r : RingAt w rb g cap bm seed N L) :
    Calls Tryd.prog 13 #[.pointer (some ⟨rb, 0, none⟩)] w fun e w' => ∃ v, e = .returned v ∧ w'.ownsRow w.heap.size 9 sK.k v N.length (N.flatMap sK.enc) ∧ Below w.heap.size w w' := by
  have few := r.few
  have c0 := r.c0
  go_enter Tryd.func13, Tryd.ntmps13
  go_wp2_with fail
  refine (fromNew6 w rb bm r.c1).mono ?_
  rintro _ w1 ⟨rfl, rfl⟩
  go_wp2_with fail
  go_loopw [3, 14] (fun u v wr => ∃ k : Nat, v = .int .i64 (k : Int) ∧ k ≤ N.length ∧ wr.ownsRow w.heap.size 9 sK.k u (N.take k).length ((N.take k).flatMap sK.enc) ∧ Below w.heap.size w wr) (fun _ v _ => N.length - (intOf v).toNat)
  case atStart => exact ⟨0, rfl, by omega, ⟨by simp, .inl ⟨rfl, by simp⟩⟩, Below.refl _ _⟩
  case round =>
    obtain ⟨k, rfl, hk, hown, hbel⟩ := hrel
    by_cases hlt : k < N.length
    · have q0 : (k : Int) < (N.length : Int) := by omega
      have rr := (r.below hbel).row.row.range k hlt
      rw [Nat.zero_add] at rr
      have lK := Mm.pkey_length seed N[k]
      have iP : Hid ((Tryd.prog.info? 63).map (·.size) = some (str N[k] :: cs (Mm.pkey seed N[k])).length) := hideP (by rw [List.length_cons, cs_length, Mm.pkey_length]; exact Tryd.infoPrincipal)
      have oP : ∀ u ∈ (str N[k] :: cs (Mm.pkey seed N[k])), u.oneCell' = true := List.all_eq_true.1 ((pK seed).one N[k])
      have zP : Hid (33 = (str N[k] :: cs (Mm.pkey seed N[k])).length) := hideP (by rw [List.length_cons, cs_length, Mm.pkey_length])
      have HT : Hid (N.take (k + 1) = N.take k ++ [N[k]]) := hideP (List.take_append_getElem hlt).symm
      have lt : (N.take k).length ≤ 6 := by simp; omega
      change wr.rangeAt g (k * 33) (str N[k] :: cs (Mm.pkey seed N[k])) at rr
      generalize N[k] = n at *
      generalize Mm.pkey seed n = K at *
      have bA := below_alloc wr (.cells (str n :: cs K).toArray 63)
      have B1 := Below.then hbel bA
      have O1 := ownsRow_below hown bA
      have s1 : (wr.alloc (.cells (str n :: cs K).toArray 63)).heap.size = wr.heap.size + 1 := by simp
      have B2 := Below.then B1 (below_alloc (wr.alloc (.cells (str n :: cs K).toArray 63)) (.cells #[str n] 9))
      have O2 := ownsRow_below O1 (below_alloc (wr.alloc (.cells (str n :: cs K).toArray 63)) (.cells #[str n] 9))
      have hR := row_new sK (wr.alloc (.cells (str n :: cs K).toArray 63)) #[str n] 9 n rfl
      rw [s1] at hR
      clear bA s1
      go_wp2_with (first
        | (refine wpList_load_mid rfl 63 _ rfl g (k * 33) rfl (str n :: cs K) _ rr Tryd.underlying63 rfl iP.out ?_)
        | (refine wpList_store_new rfl 63 _ _ rfl wr.heap.size rfl (str n :: cs K) rfl rfl zP.out iP.out oP ?_)
        | (at_builtin; refine wpList_append_rec sK _ rfl _ _ 22 9 rfl _ 16 Tryd.underlying22 Tryd.infoStr3 rfl w.heap.size u3 (N.take k) [n] (some ⟨wr.heap.size + 1, 0, none⟩) 1 1 rfl O2 rfl rfl hR B2.size (by simp; omega) (by simp; omega) ?_; intro v3 w3 o3 g3; have B3 := own_grown B2 O2 g3 B2.size; rw [← HT.out] at o3; clear g3))
      exact ⟨⟨k + 1, rfl, hlt, o3, B3⟩, by simp [intOf]; omega⟩
    · have q0 : ¬ (k : Int) < (N.length : Int) := by omega
      obtain rfl : k = N.length := by omega
      rw [List.take_length] at hown
      go_wp2_with fail
      go_ret
      exact ⟨_, rfl, hown, hbel⟩
end Go.Proofs.YtfpdiafedoppnaaDoor
