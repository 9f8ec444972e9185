/-
  LocalSame (second form): for every list of names, rules and base facts whose values and letters together number at most 1048576 the law returns true: the least model of the rewritten rules, without the relays' facts, is that of the rules, for each base at the names' places (unless one of both is too great). Conditions: the row's own (the listed variables of the library hold what the card ties to the text; the bound on what comes in).
-/
import Derived.Test.YtpdmmmdkpipmkaaGreatDoorQSame13
import Derived.Test.YtpdmmmdkpipmkaaGreatDoorQOz12
import Derived.Test.YtpdmmmdkpipmkaaGreatDoorQFrame
import Derived.Test.YtpdmmmdkpipmkaaGreatDoorQLe12
import Derived.Test.YtpdmmmdkpipmkaaGreatDoorCards
import Derived.Test.YtpdmmmdkpipmkaaGreatDoorTie
import Derived.SevenTiedAt
import Derived.Deep.DeepHandedRow
set_option maxRecDepth 100000
namespace Go.Proofs.YtpdmmmdkpipmkaaGreatDoor
open Go.ChangeShapes Go.WideShapes Go.ChangeAt Go.RowKit
theorem localSame_lifted (os: Os) (started: os.Started) (H: Type) (enc: TypeId × Value → H) (F: Stop.Interp):
 ReturnsInHanded {} Tryz.checked os 8 .any ((Rows.OpenSpec.upto Rows.localSameSpec).preRow enc Tryz.prog Tryz.f8 Rows.localSameUptoRow.domain false Rows.localSameUptoRow.laid) (((Rows.OpenSpec.upto Rows.localSameSpec).at F).post enc Tryz.prog Tryz.f8 false true false false):= by
 refine returnsInHanded_of_row (C:= Tryz.checked) (s:= Rows.OpenSpec.upto Rows.localSameSpec) Tryz.own started (by kernel_rfl) Tryz.func8
  ⟨World.doorLaid Tryz.prog 62 os,fun _ _ => 0,⟨#[],#[.slice none 0 0,.slice none 0 0,.slice none 0 0],[]⟩,rfl,World.shaped_of_RefB (by kernel_rfl) (by kernel_rfl),rfl,(Input.okWide_of_okWideB (by kernel_rfl)).2,
   OpenSpec.preRow_of_cond (x:= ([.nil,.nil,.nil],[],[])) 8 (by kernel_rfl) (by kernel_rfl) (fun k hk => by cases hk;kernel_rfl) (by kernel_rfl) (door_met os _),
   by simp only [Assume.holds];exact ⟨by simp,by simp,fun _ => Modest.zero,by simp,by simp⟩⟩ ?_
 intro W base args ds gs before hval0 hW _ hk0 _ hLD _ _
 show Calls Tryz.prog 8 args W fun e W' => ∃ v,e = .returned v ∧ Rows.localSameSpec.post enc Tryz.prog Tryz.f8 false true false false W args v W'
 have hk: Rows.uptoSmall H (ds ++ gs) = true:= hk0 _ rfl
 have hL:= laid_of hLD
 have hval: ∀ (j: Nat) t v,Tryz.f8.params[j]? = some t → args[j]? = some v → Value.okWide Tryz.prog W .any base t v:= hval0
 have hW':= hW
 obtain ⟨p,q,hA0,hV,rfl,hfz,hnd⟩:= hW
 have hA: DataW.TrodAll enc Tryz.prog W 0 (fun _ => true) true Tryz.f8.params.toList args.toList ds p:= hA0
 rw [Tryz.params8] at hA hval
 obtain ⟨v0,vs0,d0,ds0,p0,q0,hargs,rfl,rfl,h0,r0⟩:= trodAll_cons hA
 obtain ⟨v1,vs1,d1,ds1,p1,q1,rfl,rfl,rfl,h1,r1⟩:= trodAll_cons r0
 obtain ⟨v2,vs2,d2,ds2,p2,q2,rfl,rfl,rfl,h2,r2⟩:= trodAll_cons r1
 obtain ⟨rfl,rfl,rfl⟩:= trodAll_nil r2
 obtain rfl: args = #[v0,v1,v2]:= by cases args;simp_all
 obtain ⟨rfl,rfl⟩:= trodVars_none hV
 have hb: Rows.uptoBulkAll [d0,d1,d2] ≤ 1048576:= of_decide_eq_true hk
 simp only [Rows.uptoBulkAll] at hb
 have k0:= h0
 have lt0: ∀ x ∈ p0,x.block < W.heap.size:= by obtain ⟨m,hm⟩:= k0;exact DataW.trod_lt m _ _ _ hm
 obtain ⟨a0,c0,x0,rfl,H0⟩:= open_textsB13 (by omega) (hval 0 53 v0 rfl rfl) h0
 have k1:= h1
 have lt1: ∀ x ∈ p1,x.block < W.heap.size:= by obtain ⟨m,hm⟩:= k1;exact DataW.trod_lt m _ _ _ hm
 obtain ⟨a1,c1,x1,rfl,H1⟩:= open_rulesB (by omega) (hval 1 22 v1 rfl rfl) h1
 have k2:= h2
 have lt2: ∀ x ∈ p2,x.block < W.heap.size:= by obtain ⟨m,hm⟩:= k2;exact DataW.trod_lt m _ _ _ hm
 obtain ⟨a2,c2,x2,rfl,H2⟩:= open_factsB (by omega) (hval 2 32 v2 rfl rfl) h2
 clear hA0 hval0
 refine (localSame_walk a0 c0 x0 a1 c1 x1 a2 c2 x2 W hL H0 H1 H2).mono fun e W' ⟨he,bel⟩ => ?_
 subst he
 exact ⟨_,rfl,_,_,_,[],_,[],hW',trodAll_mk1 (shut_bool Tryz.underlying4 _),(trodAll_cons_mk (Below.trod Tryz.laidOut (by kernel_rfl) (of_decide_eq_true (by kernel_rfl)) k0 bel lt0) (trodAll_cons_mk (Below.trod Tryz.laidOut (by kernel_rfl) (of_decide_eq_true (by kernel_rfl)) k1 bel lt1) (trodAll_cons_mk (Below.trod Tryz.laidOut (by kernel_rfl) (of_decide_eq_true (by kernel_rfl)) k2 bel lt2) trodAll_mk0))),rfl,bel.frame _,fun h => by cases h⟩
theorem localSame_over: Rows.LocalSameUptoSaid:=
 OpenClaim.holds_of_cond 8 Tryz.f8 rfl rfl rfl rfl rfl rfl rfl ⟨rfl,rfl,rfl,rfl,rfl⟩ rfl rfl rfl rfl rfl (by kernel_rfl) Tryz.func8 (by kernel_rfl)
  (of_decide_eq_true (by kernel_rfl)) (by unfold Func.isWrapper;first | (rw [if_pos (by decide +kernel)];kernel_rfl) | (rw [if_neg (by decide +kernel)];exact ⟨rfl,rfl⟩))
  (fun os started H enc _ F => by rw [OpenClaim.pre_eq_preRow];exact localSame_lifted os started H enc F)
theorem localSame_card: Rows.LocalSameUptoCardSaid:=
 Claim7.holds_tied_plain_at .later [] _ _ _ _
  localSame_over (fun _ h => by cases h) (by kernel_rfl) (fun _ h => by cases h) localSameUpto_row_tie rfl ⟨rfl,rfl⟩ (by kernel_rfl) rfl
  (fun f fn hf hfn => by
    obtain rfl: f = 8:= Option.some.inj ((show Tryz.prog.funcNamed "avowal/avowallaw13.LocalSame" = some 8 by kernel_rfl).symm.trans hf) |>.symm
    obtain rfl: fn = Tryz.f8:= (Option.some.inj (Tryz.func8.symm.trans hfn)).symm
    exact ⟨by kernel_rfl,fun j t ht => by
     rw [Tryz.params8] at ht
     have hm: t ∈ [53,22,32]:= by simpa using Array.mem_of_getElem? ht
     have hall: ([53,22,32].all fun u => !Tryz.prog.wantsStandIn u) = true:= by kernel_rfl
     exact (show Tryz.prog.wantsStandIn t = false by simpa using List.all_eq_true.1 hall t hm)⟩)
  (by kernel_rfl)
end Go.Proofs.YtpdmmmdkpipmkaaGreatDoor
