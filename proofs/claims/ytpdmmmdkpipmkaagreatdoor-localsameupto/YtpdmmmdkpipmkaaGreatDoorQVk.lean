/-
  The program's Program: whether rules may be run, or what is wrong first.
-/
import Derived.Test.YtpdmmmdkpipmkaaGreatDoorQVj
set_option maxRecDepth 100000
namespace Go.Proofs.YtpdmmmdkpipmkaaGreatDoor
open Go.RowKit Go.Lib Go.Shelf
def ansV (p: Int × Int × Int): Value:= .tuple #[.int .i64 p.1,.int .i64 p.2.1,.int .i64 p.2.2]
theorem one_len {s s': Ck.Seen} {r: Ru} (h: Ck.one s r = .ok s'): s'.length ≤ s.length + 5:= by
 obtain ⟨hw,_,rfl⟩:= Ck.one_ok h
 exact arit_len (Ck.shown hw.shape).few
set_option maxHeartbeats 1000000 in
theorem checkProg_at (a: Option Addr) (c: Nat) (xs: List Rv) (w: World) (hL: Laid w) (hx: Rws w a c xs) (hi: ∀ x ∈ xs,Sh.RIn x.r):
 Calls Tryz.prog 26 #[.slice a xs.length c] w fun e w' => e = .returned (ansV (Ck.prog (xs.map Rv.r))) ∧ Below w.heap.size w w':= by
 have hml: (xs.map Rv.r).length = xs.length:= List.length_map ..
 have few:= hx.row.few
 have HP: Hid (Ck.prog (xs.map Rv.r) = if 16 < (xs.map Rv.r).length then (81,-1,-1) else Ck.go 0 [] (xs.map Rv.r)):= rfl
 rw [hml] at HP
 by_cases h16: 16 < xs.length
 ·have q: (xs.length: Int) > 16:= by omega
  rw [if_pos h16] at HP
  go_enter Tryz.func26,Tryz.ntmps26
  go_wp2_with fail
  go_ret3
  exact ⟨by rw [HP.out];rfl,Below.refl _ _⟩
 have q: ¬ (xs.length: Int) > 16:= by omega
 rw [if_neg h16] at HP
 have hmm:= fun W => (show (Instr.makeMap 87 none).run Tryz.prog W = .ok (.map (some W.heap.size)) (W.alloc (.map #[] 0)) from rfl)
 have A0:= below_alloc w (.map #[] 0)
 have S0:= sizes_new w
 go_enter Tryz.func26,Tryz.ntmps26
 go_wp2_with fail
 go_loopw [6,7,8,9,16] (fun _ _ _ _ v wr => ∃ (j: Nat) (s': Ck.Seen),v = .int .i64 (j: Int) ∧ j ≤ xs.length ∧ SizesAt wr w.heap.size s' ∧ Below w.heap.size w wr ∧ Hid (Ck.prog (xs.map Rv.r) = Ck.go j s' ((xs.map Rv.r).drop j)) ∧ s'.length ≤ 5 * j) (fun _ _ _ _ v _ => xs.length - (RowKit.intOf v).toNat)
 case atStart => exact ⟨0,[],rfl,Nat.zero_le _,S0,A0,by rw [List.drop_zero];exact HP,by simp⟩
 case round =>
  obtain ⟨j,s',rfl,hj,S,B,HJ,hjl⟩:= hrel
  by_cases hlt: j < xs.length
  ·have q2: (j: Int) < (xs.length: Int):= by omega
   have hjr: j < (xs.map Rv.r).length:= by omega
   obtain ⟨P1,O1,rfl⟩:= hx.row.addr (Nat.lt_of_le_of_lt (Nat.zero_le _) hlt)
   have r1: wr.rangeAt P1 (O1 + j * 11) (rv (xs[j]'hlt)):= (hx.row.below B (Nat.le_refl _)).range j hlt
   have aP:= (hx.each _ (List.getElem_mem hlt)).below B (Nat.le_refl _)
   have hyi:= hi _ (List.getElem_mem hlt)
   rw [List.drop_eq_getElem_cons hjr,Ck.go,List.getElem_map] at HJ
   generalize (xs[j]'hlt) = y at *
   have iP: (Tryz.prog.info? 48).map (·.size) = some (rv y).length:= Tryz.iR11
   go_upto_region 7 with (first
    | (refine wpList_load_mid rfl 48 _ rfl P1 (O1 + j * 11) rfl (rv y) _ r1 Tryz.underlying48 rfl iP ?_)
    | (refine wpList_store_all rfl 48 _ _ rfl wr.heap.size 11 _ 48 (rv y) rfl rfl (heap_alloc_new wr _) rfl rfl Tryz.iR11 rfl ?_;intro w2 H2 d2;have b2:= below_tok d2))
   have B2:= B.trans (b2.mono B.size)
   have S2:= S.next b2
   go_wp2_with (refine wpList_load_all rfl 48 _ rfl wr.heap.size 11 48 (rv y) _ rfl H2 rfl Tryz.underlying48 rfl Tryz.iR11 ?_)
   refine (fault_at w.heap.size y s' w2 (hL.below B2) S2 (aP.below b2 (Nat.le_refl _)) hyi (by omega)).mono ?_
   rintro e w3 ⟨h3,b3⟩
   have B3:= B2.trans (b3.lower (Nat.le_refl _) B2.size)
   cases ho: Ck.one s' y.r with
   | error z =>
    obtain ⟨z1,z2⟩:= z
    have hz: z1 ≠ 0:= Ck.one_err ho
    have q3: (z1 != 0) = true:= by simpa using hz
    rw [ho] at h3 HJ
    simp only [FaultAns] at h3
    subst h3
    simp only at HJ
    clear ho hz
    go_wp2_with fail
    go_ret3
    rw [HJ.out]
    exact ⟨rfl,B3⟩
   | ok s2 =>
    have hl2:= one_len ho
    rw [ho] at h3 HJ
    obtain ⟨rfl,S3⟩:= h3
    simp only at HJ
    clear ho
    go_wp2_with fail
    exact ⟨⟨j + 1,s2,by go_num,by omega,S3,B3,HJ,by omega⟩,by simp [RowKit.intOf];omega⟩
  ·have q2: ¬ (j: Int) < (xs.length: Int):= by omega
   rw [List.drop_of_length_le (by omega),Ck.go] at HJ
   go_wp2_with fail
   go_ret3
   rw [HJ.out]
   exact ⟨rfl,B⟩
end Go.Proofs.YtpdmmmdkpipmkaaGreatDoor
