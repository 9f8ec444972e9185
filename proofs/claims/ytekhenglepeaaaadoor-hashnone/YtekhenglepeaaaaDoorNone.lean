/-
  A sum that no call made takes nothing and tells nothing: the contracts of a nil Hash and of one that New did not make, and the walk of HashNone.
-/
import Derived.Test.YtekhenglepeaaaaDoorLive
namespace Go.Proofs.YtekhenglepeaaaaDoor
open Go.RowKit

/-- no Hash of New's -/
def Unmade (w : World) (v : Value) : Prop := v = .pointer none ∨ ∃ h, v = .pointer (some ⟨h, 0, none⟩) ∧ w.cell? ⟨h, 0, none⟩ = some (.bool false)
theorem Unmade.below {w w' : World} {v : Value} (u : Unmade w v) (hb : Below w.heap.size w w') : Unmade w' v := by
  rcases u with rfl | ⟨h, rfl, hc⟩
  · exact .inl rfl
  · exact .inr ⟨h, rfl, by rw [hb.cell (p := ⟨h, 0, none⟩) (cell_block hc)]; exact hc⟩
theorem fromNew_un (w : World) (v : Value) (u : Unmade w v) : Calls Tryd.prog 20 #[v] w fun e w' => e = .returned (.bool false) ∧ w = w' := by
  rcases u with rfl | ⟨h, rfl, hc⟩
  · exact fromNew_nil w
  · exact fromNew_any w h false hc
theorem add_un (w : World) (v b : Value) (u : Unmade w v) : Calls Tryd.prog 14 #[v, b] w fun e w' => e = .returned (.tuple #[]) ∧ w = w' := by
  have hf := fromNew_un w v u
  go_enter Tryd.func14, Tryd.ntmps14
  go_wp2_with (go_at_call 20; refine hf.mono ?_; rintro e w' ⟨rfl, rfl⟩)
  exact bodyPost_ret (results_none rfl _ _ _) rfl ⟨rfl, rfl⟩
theorem len_un (w : World) (v : Value) (u : Unmade w v) : Calls Tryd.prog 15 #[v] w fun e w' => e = .returned (.int .i64 0) ∧ w = w' := by
  have hf := fromNew_un w v u
  go_enter Tryd.func15, Tryd.ntmps15
  go_wp2_with (go_at_call 20; refine hf.mono ?_; rintro e w' ⟨rfl, rfl⟩)
  go_ret
  exact ⟨rfl, rfl⟩
set_option maxRecDepth 100000 in
set_option maxHeartbeats 800000 in
theorem sum_un (w : World) (v : Value) (u : Unmade w v) : Calls Tryd.prog 16 #[v] w fun e w' => e = .returned (ba (Sm.zeros 32)) ∧ Below w.heap.size w w' := by
  have hf : ∀ o, Calls Tryd.prog 20 #[v] (w.alloc o) fun e w' => e = .returned (.bool false) ∧ w.alloc o = w' := fun o => fromNew_un _ v (u.below (below_alloc w o))
  have iD : (Tryd.prog.info? 26).map (·.size) = some (cs (Sm.zeros 32)).length := Tryd.infoDigest
  have oD := cs_one (Sm.zeros 32)
  go_enter Tryd.func16, Tryd.ntmps16
  go_wp2_with (first | (go_at_call 20; refine (hf _).mono ?_; rintro e w' ⟨rfl, rfl⟩) | (refine wpList_store_new rfl 26 _ _ rfl w.heap.size rfl (cs (Sm.zeros 32)) rfl rfl rfl iD oD ?_))
  exact bodyPost_ret (results_cell (b := w.heap.size) (o := 0) (cs := cs (Sm.zeros 32)) rfl rfl (rangeAt_new _ _ _ _ (by simp)) Tryd.underlying26 rfl iD) rfl ⟨rfl, below_alloc _ _⟩

set_option maxRecDepth 100000 in
set_option maxHeartbeats 1600000 in
theorem hashNone_any (b : Value) (w : World) (hL : Laid w) :
    Calls Tryd.prog 7 #[b] w fun e w' => e = .returned (.bool true) ∧ Below w.heap.size w w' := by
  have hz := Tryd.zeroHash
  have hi0 : ∀ (g : Nat) (w : World), (Instr.index 45 (.agg #[.pointer none, .pointer (some ⟨g, 0, none⟩)]) (.int .i64 0)).run Tryd.prog w = .ok (.pointer none) w := fun _ _ => by kernel_rfl
  have hi1 : ∀ (g : Nat) (w : World), (Instr.index 45 (.agg #[.pointer none, .pointer (some ⟨g, 0, none⟩)]) (.int .i64 1)).run Tryd.prog w = .ok (.pointer (some ⟨g, 0, none⟩)) w := fun _ _ => by kernel_rfl
  have hE : ∀ w, (Op.equalIn 10000 26 (.agg (cs (Sm.zeros 32)).toArray) (.agg #[.int .u8 0, .int .u8 0, .int .u8 0, .int .u8 0, .int .u8 0, .int .u8 0, .int .u8 0, .int .u8 0, .int .u8 0, .int .u8 0, .int .u8 0, .int .u8 0, .int .u8 0, .int .u8 0, .int .u8 0, .int .u8 0, .int .u8 0, .int .u8 0, .int .u8 0, .int .u8 0, .int .u8 0, .int .u8 0, .int .u8 0, .int .u8 0, .int .u8 0, .int .u8 0, .int .u8 0, .int .u8 0, .int .u8 0, .int .u8 0, .int .u8 0, .int .u8 0])).run Tryd.prog w = .ok true w := fun w => equalIn32 (Sm.zeros 32) (Sm.zeros 32) rfl rfl w
  go_enter Tryd.func7, Tryd.ntmps7
  go_wp2_with fail
  go_loopw [7] (fun v wr => ∃ i : Nat, v = .int .i64 (i : Int) ∧ i ≤ 2 ∧ Below w.heap.size w wr ∧ wr.cell? ⟨w.heap.size, 0, none⟩ = some (.bool false)) (fun v _ => 2 - (intOf v).toNat)
  case atStart => exact ⟨0, rfl, by omega, below_alloc _ _, by simp⟩
  case round =>
    obtain ⟨i, rfl, hi, hbel, hc⟩ := hrel
    clear hz
    have h3 : i = 0 ∨ i = 1 ∨ i = 2 := by omega
    rcases h3 with h | h | h
    · have u : Unmade wr (.pointer none) := .inl rfl
      have k : (i : Int) = 0 := by omega
      have HI : Hid (i = 0) := h
      clear h hi
      go_wp2_with (first | (go_at_call 14; refine (add_un wr _ _ u).mono ?_; rintro e w' ⟨rfl, rfl⟩) | (go_at_call 16; refine (sum_un wr _ u).mono ?_; rintro e w2 ⟨rfl, hb2⟩; have u2 := u.below hb2) | (go_at_call 15; refine (len_un w2 _ u2).mono ?_; rintro e w' ⟨rfl, rfl⟩))
      have hI := HI.out
      refine ⟨⟨1, rfl, by omega, Below.then hbel hb2, by rw [hb2.cell (p := ⟨w.heap.size, 0, none⟩) (cell_block hc)]; exact hc⟩, by rw [hI]; simp [intOf]⟩
    · have u : Unmade wr (.pointer (some ⟨w.heap.size, 0, none⟩)) := .inr ⟨_, rfl, hc⟩
      have k : (i : Int) = 1 := by omega
      have HI : Hid (i = 1) := h
      clear h hi
      go_wp2_with (first | (go_at_call 14; refine (add_un wr _ _ u).mono ?_; rintro e w' ⟨rfl, rfl⟩) | (go_at_call 16; refine (sum_un wr _ u).mono ?_; rintro e w2 ⟨rfl, hb2⟩; have u2 := u.below hb2) | (go_at_call 15; refine (len_un w2 _ u2).mono ?_; rintro e w' ⟨rfl, rfl⟩))
      have hI := HI.out
      refine ⟨⟨2, rfl, by omega, Below.then hbel hb2, by rw [hb2.cell (p := ⟨w.heap.size, 0, none⟩) (cell_block hc)]; exact hc⟩, by rw [hI]; simp [intOf]⟩
    · have k : (i : Int) = 2 := by omega
      clear h hi
      go_wp2_with (go_at_call 8; refine (live_any wr (hL.below hbel)).mono ?_; rintro e w2 ⟨rfl, hb2⟩)
      go_ret
      exact ⟨rfl, Below.then hbel hb2⟩
theorem hashNone_walk (a : Option Addr) (c : Nat) (l : List UInt8) (w : World) (hL : Laid w) (_ : Holds w a c l) (_ : l.length ≤ 140737488351232) :
    Calls Tryd.prog 7 #[.slice a l.length c] w fun e w' => e = .returned (.bool true) ∧ Below w.heap.size w w' := hashNone_any _ w hL
end Go.Proofs.YtekhenglepeaaaaDoor
