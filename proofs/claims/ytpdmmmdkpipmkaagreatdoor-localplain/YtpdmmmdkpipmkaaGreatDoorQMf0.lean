/-
  Rules in memory of their own: four kinds of writes.
-/
import Derived.Test.YtpdmmmdkpipmkaaGreatDoorQMe
namespace Go.Proofs.YtpdmmmdkpipmkaaGreatDoor
open Go.RowKit

theorem blks_args {x : Rv} {b : Nat} (h : b ∈ bks x.a) : b ∈ blks x := List.mem_append_left _ h
theorem blks_lit {x : Rv} {l : Lv} {b : Nat} (hl : l ∈ x.body) (h : b ∈ bks l.a) : b ∈ blks x := List.mem_append_right _ (List.mem_append_right _ (List.mem_flatMap.2 ⟨l, hl, h⟩))
/-- each block of a rule has a type that is not a rule's -/
theorem blks_tag {w : World} {x : Rv} (h : Rv.At w x) {b : Nat} (hb : b ∈ blks x) : ∃ C ty, w.heap[b]? = some (.cells C ty) ∧ ty ≠ 48 := by
  rcases List.mem_append.1 hb with hb | hb
  · obtain ⟨ad, ha, rfl⟩ := mem_bks.1 hb
    obtain ⟨cur, hc⟩ := h.args.tag ad ha
    exact ⟨cur, _, hc, by decide⟩
  · rcases List.mem_append.1 hb with hb | hb
    · obtain ⟨ad, ha, rfl⟩ := mem_bks.1 hb
      obtain ⟨cur, hc⟩ := h.body.tag ad ha
      exact ⟨cur, _, hc, by decide⟩
    · obtain ⟨l, hl, hb⟩ := List.mem_flatMap.1 hb
      obtain ⟨ad, ha, rfl⟩ := mem_bks.1 hb
      obtain ⟨cur, hc⟩ := (show RowT tK 44 w l.a l.cap l.args from h.each l hl).tag ad ha
      exact ⟨cur, _, hc, by decide⟩
/-- a rule none of whose blocks turned -/
theorem Rv.At.but {w w' : World} {x : Rv} {b : Nat} (h : Rv.At w x) (hb : But b w w') (hn : b ∉ blks x) : Rv.At w' x :=
  ⟨h.args.but hb (fun k => hn (blks_args k)), h.body.but hb (fun k => hn (List.mem_append_right _ (List.mem_append_left _ k))), fun l hl => RowT.but (h.each l hl) hb (fun k => hn (blks_lit hl k))⟩

/-- one rule turned, in a block of its own or in the rules' row -/
theorem Mem.upd {L : Nat} {w w' : World} {a : Option Addr} {c I b : Nat} {zs : List Rv} {z : Rv} (h : Mem L w a c zs) (hI : I < zs.length) (hb : But b w w') (hn : ∀ j (hj : j < zs.length), j ≠ I → b ∉ blks zs[j]) (hrow : RowT rK 48 w' a c (zs.set I z)) (hz : Rv.At w' z) (hk : blks z = blks zs[I]) : Mem L w' a c (zs.set I z) := by
  have hget : ∀ i (hi : i < (zs.set I z).length), blks (zs.set I z)[i] = blks (zs[i]'(by rw [List.length_set] at hi; exact hi)) := fun i hi => by
    rw [List.getElem_set]
    split
    · rename_i e; subst e; exact hk
    · rfl
  refine ⟨hrow, fun y hy => ?_, fun i j hi hj hne b hb => ?_, fun y hy => ?_, fun y hy => ?_, h.low0⟩
  · obtain ⟨i, hi, rfl⟩ := List.getElem_of_mem hy
    rw [List.length_set] at hi
    rw [List.getElem_set]
    split
    · exact hz
    · rename_i e
      exact (h.each _ (List.getElem_mem hi)).but hb (hn i hi (fun k => e k.symm))
  · rw [hget] at hb ⊢
    exact h.out_ i j _ _ hne b hb
  · obtain ⟨i, hi, rfl⟩ := List.getElem_of_mem hy
    rw [hget i hi]
    exact h.in_ _ (List.getElem_mem _)
  · obtain ⟨i, hi, rfl⟩ := List.getElem_of_mem hy
    rw [hget i hi]
    exact h.low _ (List.getElem_mem _)
theorem Mem.other {L : Nat} {w : World} {a : Option Addr} {c I b : Nat} {zs : List Rv} (h : Mem L w a c zs) (hI : I < zs.length) (hb : b ∈ blks zs[I]) : ∀ j (hj : j < zs.length), j ≠ I → b ∉ blks zs[j] := fun j hj hne => h.out_ I j hI hj (Ne.symm hne) b hb
/-- the rules' row, where a rule's cells are as they were -/
theorem Mem.same {L : Nat} {w w' : World} {a : Option Addr} {c I b : Nat} {zs : List Rv} {z : Rv} {C : Array Value} {ty : TypeId} (h : Mem L w a c zs) (hI : I < zs.length) (hb : But b w w') (ht : w.heap[b]? = some (.cells C ty)) (hty : ty ≠ 48) (he : rv z = rv zs[I]) : RowT rK 48 w' a c (zs.set I z) := by
  refine (h.row.but hb (h.row.apart ht (Ne.symm hty))).told (List.length_set ..) ?_
  have e : zs.set I z = zs.take I ++ z :: zs.drop (I + 1) := List.set_eq_take_append_cons_drop .. |>.trans (by rw [if_pos hI])
  have e0 : zs = zs.take I ++ zs[I] :: zs.drop (I + 1) := by rw [← List.drop_eq_getElem_cons hI, List.take_append_drop]
  rw [e]
  conv => rhs; rw [e0]
  rw [List.flatMap_append, List.flatMap_append, List.flatMap_cons, List.flatMap_cons]
  show _ ++ (rv z ++ _) = _ ++ (rv zs[I] ++ _)
  rw [he]

/-- WRITE 1: an argument of the head -/
theorem Mem.arg {L : Nat} {w : World} {a : Option Addr} {c I b o k : Nat} {zs : List Rv} {t : Tm} (h : Mem L w a c zs) (hI : I < zs.length) (ha : zs[I].a = some ⟨b, o, none⟩) (hk : k < zs[I].args.length) :
    Mem L (w.setCells b (o + k * 4) (tv t)) a c (zs.set I { zs[I] with args := zs[I].args.set k t }) := by
  have hz := h.each _ (List.getElem_mem hI)
  have hin := h.in_ _ (List.getElem_mem hI)
  have hB : But b w (w.setCells b (o + k * 4) (tv t)) := But.cells _ _ _ (But.refl b w)
  have hm : b ∈ blks zs[I] := blks_args (mem_bks.2 ⟨_, ha, rfl⟩)
  obtain ⟨C, ht⟩ := hz.args.tag _ ha
  generalize hzI : zs[I] = z at *
  obtain ⟨z1, z2, z3, z4, z5, z6, z7, z8, z9⟩ := z
  simp only at ha hk
  subst ha
  have hin2 : ∀ l ∈ z9, b ∉ bks l.a := fun l hl hb => by
    have := (List.nodup_append.1 hin).2.2 b (by simp [bks]) b (List.mem_append_right _ (List.mem_flatMap.2 ⟨l, hl, hb⟩))
    exact this rfl
  refine h.upd hI hB (by rw [← hzI] at hm; exact h.other hI hm) ?_ ⟨RowT.set (D := tK) hz.args hk, hz.body.but hB (hz.body.apart ht (by decide)), fun l hl => RowT.but (hz.each l hl) hB (hin2 l hl)⟩ (by rw [hzI]; rfl)
  refine h.same hI hB ht (by decide) ?_
  rw [hzI]
  simp [rv]
/-- WRITE 2: the home, or the place that the head goes to -/
theorem Mem.head {L : Nat} {w : World} {c I b o d : Nat} {zs : List Rv} {t : Rv} {V : List Value} (h : Mem L w (some ⟨b, o, none⟩) c zs) (hI : I < zs.length) (hd : d + V.length ≤ 11) (h1 : ∀ c, d ≤ c → c < d + V.length → (rv t)[c]? = V[c - d]?) (h2 : ∀ c, (c < d ∨ d + V.length ≤ c) → (rv t)[c]? = (rv zs[I])[c]?) (he : t.a = zs[I].a ∧ t.cap = zs[I].cap ∧ t.args = zs[I].args ∧ t.ba = zs[I].ba ∧ t.bcap = zs[I].bcap ∧ t.body = zs[I].body) :
    Mem L (w.setCells b (o + I * 11 + d) V) (some ⟨b, o, none⟩) c (zs.set I t) := by
  have hB : But b w (w.setCells b (o + I * 11 + d) V) := But.cells _ _ _ (But.refl b w)
  obtain ⟨C, ht⟩ := h.row.tag _ rfl
  have hno : ∀ z ∈ zs, b ∉ blks z := fun z hz hb => by
    obtain ⟨C', ty, hc, hne⟩ := blks_tag (h.each z hz) hb
    rw [ht] at hc; cases hc; exact hne rfl
  have hz := (h.each _ (List.getElem_mem hI)).but hB (hno _ (List.getElem_mem hI))
  obtain ⟨e1, e2, e3, e4, e5, e6⟩ := he
  refine h.upd hI hB (fun j hj _ => hno _ (List.getElem_mem hj)) (RowT.part (D := rK) h.row hI hd h1 h2) ⟨?_, ?_, ?_⟩ ?_
  · rw [e1, e2, e3]; exact hz.args
  · rw [e4, e5, e6]; exact hz.body
  · rw [e6]; exact hz.each
  · unfold blks; rw [e1, e4, e6]
/-- WRITE 3: who says a literal, or its place -/
theorem Mem.lit {L : Nat} {w : World} {a : Option Addr} {c I b o k d : Nat} {zs : List Rv} {l : Lv} {V : List Value} (h : Mem L w a c zs) (hI : I < zs.length) (ha : zs[I].ba = some ⟨b, o, none⟩) (hk : k < zs[I].body.length) (hd : d + V.length ≤ 10) (h1 : ∀ c, d ≤ c → c < d + V.length → (lv l)[c]? = V[c - d]?) (h2 : ∀ c, (c < d ∨ d + V.length ≤ c) → (lv l)[c]? = (lv zs[I].body[k])[c]?) (he : l.a = zs[I].body[k].a ∧ l.cap = zs[I].body[k].cap ∧ l.args = zs[I].body[k].args) :
    Mem L (w.setCells b (o + k * 10 + d) V) a c (zs.set I { zs[I] with body := zs[I].body.set k l }) := by
  have hz := h.each _ (List.getElem_mem hI)
  have hB : But b w (w.setCells b (o + k * 10 + d) V) := But.cells _ _ _ (But.refl b w)
  have hm : b ∈ blks zs[I] := List.mem_append_right _ (List.mem_append_left _ (mem_bks.2 ⟨_, ha, rfl⟩))
  obtain ⟨C, ht⟩ := hz.body.tag _ ha
  generalize hzI : zs[I] = z at *
  obtain ⟨z1, z2, z3, z4, z5, z6, z7, z8, z9⟩ := z
  simp only at ha hk he h2
  subst ha
  obtain ⟨e1, e2, e3⟩ := he
  have hE : ∀ y ∈ z9, Lv.At (w.setCells b (o + k * 10 + d) V) y := fun y hy => by
    have := hz.each y hy
    exact RowT.but this hB (RowT.apart this ht (by decide))
  refine h.upd hI hB (by rw [← hzI] at hm; exact h.other hI hm) ?_ ⟨hz.args.but hB (hz.args.apart ht (by decide)), RowT.part (D := lK) hz.body hk hd h1 h2, fun y hy => ?_⟩ ?_
  · refine h.same hI hB ht (by decide) ?_
    rw [hzI]
    simp [rv]
  · rcases List.mem_or_eq_of_mem_set hy with hy | hy
    · exact hE y hy
    · subst hy
      have := hE _ (List.getElem_mem hk)
      unfold Lv.At at this ⊢
      rw [e1, e2, e3]; exact this
  · rw [hzI]
    unfold blks
    simp only
    congr 2
    have : (z9.set k l).map (fun y => bks y.a) = z9.map (fun y => bks y.a) := by
      rw [List.map_set, e1, ← List.getElem_map (fun y : Lv => bks y.a) (h := by rw [List.length_map]; exact hk), List.set_getElem_self]
    rw [List.flatMap_def, List.flatMap_def, this]
/-- WRITE 4: an argument of a literal -/
theorem Mem.larg {L : Nat} {w : World} {a : Option Addr} {c I b o k j : Nat} {zs : List Rv} {t : Tm} (h : Mem L w a c zs) (hI : I < zs.length) (hk : k < zs[I].body.length) (ha : zs[I].body[k].a = some ⟨b, o, none⟩) (hj : j < zs[I].body[k].args.length) :
    Mem L (w.setCells b (o + j * 4) (tv t)) a c (zs.set I { zs[I] with body := zs[I].body.set k { zs[I].body[k] with args := zs[I].body[k].args.set j t } }) := by
  have hz := h.each _ (List.getElem_mem hI)
  have hin := h.in_ _ (List.getElem_mem hI)
  have hB : But b w (w.setCells b (o + j * 4) (tv t)) := But.cells _ _ _ (But.refl b w)
  have hm : b ∈ blks zs[I] := blks_lit (List.getElem_mem hk) (mem_bks.2 ⟨_, ha, rfl⟩)
  obtain ⟨C, ht⟩ := (show RowT tK 44 w _ _ _ from hz.each _ (List.getElem_mem hk)).tag _ ha
  generalize hzI : zs[I] = z at *
  obtain ⟨z1, z2, z3, z4, z5, z6, z7, z8, z9⟩ := z
  simp only at ha hk hj hz hin
  have hm9 : b ∈ z9.flatMap (fun l => bks l.a) := List.mem_flatMap.2 ⟨_, List.getElem_mem hk, mem_bks.2 ⟨_, ha, rfl⟩⟩
  have hin1 : b ∉ bks z3 := fun hb => (List.nodup_append.1 hin).2.2 b hb b (List.mem_append_right _ hm9) rfl
  have hin3 : (z9.flatMap (fun l => bks l.a)).Nodup := (List.nodup_append.1 (List.nodup_append.1 hin).2.1).2.1
  obtain ⟨_, hpw⟩ := List.pairwise_flatMap.1 hin3
  rw [List.pairwise_iff_getElem] at hpw
  have hin2 : ∀ i (hi : i < z9.length), i ≠ k → b ∉ bks z9[i].a := fun i hi hne hb => by
    have hbk : b ∈ bks z9[k].a := mem_bks.2 ⟨_, ha, rfl⟩
    rcases Nat.lt_or_gt_of_ne hne with h1 | h1
    · exact hpw i k hi hk h1 b hb b hbk rfl
    · exact hpw k i hk hi h1 b hbk b hb rfl
  have hlv : ∀ i (hi : i < z9.length), Lv.At (w.setCells b (o + j * 4) (tv t)) ((z9.set k { z9[k] with args := z9[k].args.set j t })[i]'(by rw [List.length_set]; exact hi)) := fun i hi => by
    rw [List.getElem_set]
    split
    · have := hz.each _ (List.getElem_mem hk)
      unfold Lv.At at this ⊢
      simp only at this ⊢
      rw [ha] at this ⊢
      exact RowT.set (D := tK) this hj
    · rename_i e
      exact RowT.but (hz.each _ (List.getElem_mem hi)) hB (hin2 i hi (fun q => e q.symm))
  refine h.upd hI hB (by rw [← hzI] at hm; exact h.other hI hm) ?_ ⟨hz.args.but hB hin1, ?_, fun y hy => ?_⟩ ?_
  · refine h.same hI hB ht (by decide) ?_
    rw [hzI]
    simp [rv]
  · refine (hz.body.but hB (hz.body.apart ht (by decide))).told (List.length_set ..) ?_
    have : (z9.set k { z9[k] with args := z9[k].args.set j t }).map lv = z9.map lv := by
      rw [List.map_set, show lv { z9[k] with args := z9[k].args.set j t } = lv z9[k] by simp [lv], ← List.getElem_map lv (h := by rw [List.length_map]; exact hk), List.set_getElem_self]
    show (z9.set k _).flatMap lv = z9.flatMap lv
    rw [List.flatMap_def, List.flatMap_def, this]
  · obtain ⟨i, hi, rfl⟩ := List.getElem_of_mem hy
    exact hlv i (by rw [List.length_set] at hi; exact hi)
  · rw [hzI]
    unfold blks
    simp only
    congr 2
    have : (z9.set k { z9[k] with args := z9[k].args.set j t }).map (fun y => bks y.a) = z9.map (fun y => bks y.a) := by
      rw [List.map_set, ← List.getElem_map (fun y : Lv => bks y.a) (h := by rw [List.length_map]; exact hk), List.set_getElem_self]
    rw [List.flatMap_def, List.flatMap_def, this]

/-! the same of one rule that is known -/
theorem set_same {zs : List Rv} {I : Nat} (y z : Rv) : (zs.set I y).set I z = zs.set I z := List.set_set ..
theorem at_same {zs : List Rv} {I : Nat} {y : Rv} (hI : I < (zs.set I y).length) : (zs.set I y)[I] = y := List.getElem_set_self ..
theorem Mem.arg1 {L : Nat} {w : World} {a : Option Addr} {c I b o k : Nat} {zs : List Rv} {y : Rv} {t : Tm} (h : Mem L w a c (zs.set I y)) (hI : I < zs.length) (ha : y.a = some ⟨b, o, none⟩) (hk : k < y.args.length) :
    Mem L (w.setCells b (o + k * 4) (tv t)) a c (zs.set I { y with args := y.args.set k t }) ∧ Below L w (w.setCells b (o + k * 4) (tv t)) := by
  have hI' : I < (zs.set I y).length := by rw [List.length_set]; exact hI
  have hm := h.arg (k := k) (b := b) (o := o) (t := t) hI' (by rw [at_same]; exact ha) (by rw [at_same]; exact hk)
  rw [at_same, set_same] at hm
  have hL := h.low y (by have := List.getElem_mem hI'; rwa [at_same] at this) b (blks_args (mem_bks.2 ⟨_, ha, rfl⟩))
  obtain ⟨C, ht⟩ := (h.each y (by have := List.getElem_mem hI'; rwa [at_same] at this)).args.tag _ ha
  have := heap_lt ht
  exact ⟨hm, (But.cells _ _ _ (But.refl b w)).lower hL (by simp only at this; omega)⟩
theorem Mem.head1 {L : Nat} {w : World} {c I b o d : Nat} {zs : List Rv} {y t : Rv} {V : List Value} (h : Mem L w (some ⟨b, o, none⟩) c (zs.set I y)) (hI : I < zs.length) (hd : d + V.length ≤ 11) (h1 : ∀ c, d ≤ c → c < d + V.length → (rv t)[c]? = V[c - d]?) (h2 : ∀ c, (c < d ∨ d + V.length ≤ c) → (rv t)[c]? = (rv y)[c]?) (he : t.a = y.a ∧ t.cap = y.cap ∧ t.args = y.args ∧ t.ba = y.ba ∧ t.bcap = y.bcap ∧ t.body = y.body) :
    Mem L (w.setCells b (o + I * 11 + d) V) (some ⟨b, o, none⟩) c (zs.set I t) ∧ Below L w (w.setCells b (o + I * 11 + d) V) := by
  have hI' : I < (zs.set I y).length := by rw [List.length_set]; exact hI
  have hm := h.head (d := d) (t := t) (V := V) hI' hd h1 (by rw [at_same]; exact h2) (by rw [at_same]; exact he)
  rw [set_same] at hm
  obtain ⟨C, ht⟩ := h.row.tag _ rfl
  have := heap_lt ht
  have hL := h.low0 _ rfl
  exact ⟨hm, (But.cells _ _ _ (But.refl b w)).lower hL (by simp only at this hL; omega)⟩
theorem Mem.lit1 {L : Nat} {w : World} {a : Option Addr} {c I b o k d : Nat} {zs : List Rv} {y : Rv} {l : Lv} {V : List Value} (h : Mem L w a c (zs.set I y)) (hI : I < zs.length) (ha : y.ba = some ⟨b, o, none⟩) (hk : k < y.body.length) (hd : d + V.length ≤ 10) (h1 : ∀ c, d ≤ c → c < d + V.length → (lv l)[c]? = V[c - d]?) (h2 : ∀ c, (c < d ∨ d + V.length ≤ c) → (lv l)[c]? = (lv y.body[k])[c]?) (he : l.a = y.body[k].a ∧ l.cap = y.body[k].cap ∧ l.args = y.body[k].args) :
    Mem L (w.setCells b (o + k * 10 + d) V) a c (zs.set I { y with body := y.body.set k l }) ∧ Below L w (w.setCells b (o + k * 10 + d) V) := by
  have hI' : I < (zs.set I y).length := by rw [List.length_set]; exact hI
  have e : (zs.set I y)[I] = y := at_same hI'
  have hm : Mem L (w.setCells b (o + k * 10 + d) V) a c ((zs.set I y).set I { y with body := y.body.set k l }) := by
    have := h.lit (l := l) (V := V) (d := d) (k := k) (b := b) (o := o) hI' (by rw [e]; exact ha) (by rw [e]; exact hk) hd h1 (by simp only [e]; exact h2) (by simp only [e]; exact he)
    simp only [e] at this
    exact this
  rw [set_same] at hm
  have hy : y ∈ zs.set I y := by have := List.getElem_mem hI'; rwa [e] at this
  have hL := h.low y hy b (List.mem_append_right _ (List.mem_append_left _ (mem_bks.2 ⟨_, ha, rfl⟩)))
  obtain ⟨C, ht⟩ := (h.each y hy).body.tag _ ha
  have := heap_lt ht
  exact ⟨hm, (But.cells _ _ _ (But.refl b w)).lower hL (by simp only at this; omega)⟩
theorem Mem.larg1 {L : Nat} {w : World} {a : Option Addr} {c I b o k j : Nat} {zs : List Rv} {y : Rv} {t : Tm} (h : Mem L w a c (zs.set I y)) (hI : I < zs.length) (hk : k < y.body.length) (ha : y.body[k].a = some ⟨b, o, none⟩) (hj : j < y.body[k].args.length) :
    Mem L (w.setCells b (o + j * 4) (tv t)) a c (zs.set I { y with body := y.body.set k { y.body[k] with args := y.body[k].args.set j t } }) ∧ Below L w (w.setCells b (o + j * 4) (tv t)) := by
  have hI' : I < (zs.set I y).length := by rw [List.length_set]; exact hI
  have e : (zs.set I y)[I] = y := at_same hI'
  have hm : Mem L (w.setCells b (o + j * 4) (tv t)) a c ((zs.set I y).set I { y with body := y.body.set k { y.body[k] with args := y.body[k].args.set j t } }) := by
    have := h.larg (t := t) (k := k) (j := j) (b := b) (o := o) hI' (by rw [e]; exact hk) (by simp only [e]; exact ha) (by simp only [e]; exact hj)
    simp only [e] at this
    exact this
  rw [set_same] at hm
  have hy : y ∈ zs.set I y := by have := List.getElem_mem hI'; rwa [e] at this
  have hL := h.low y hy b (blks_lit (List.getElem_mem hk) (mem_bks.2 ⟨_, ha, rfl⟩))
  obtain ⟨C, ht⟩ := (show RowT tK 44 w _ _ _ from (h.each y hy).each _ (List.getElem_mem hk)).tag _ ha
  have := heap_lt ht
  exact ⟨hm, (But.cells _ _ _ (But.refl b w)).lower hL (by simp only at this; omega)⟩
/-- what can be read of a row, and that it can be written -/
theorem RowT.there {α : Type} {D : Kd α} {ty : TypeId} {w : World} {b o cap k d m : Nat} {xs : List α} (h : RowT D ty w (some ⟨b, o, none⟩) cap xs) (hk : k < xs.length) (hd : d + m ≤ D.k) : w.there b (o + k * D.k + d) m := fun j hj => by
  obtain ⟨C, ht⟩ := h.tag _ rfl
  refine ⟨?_, heap_frozen ht _⟩
  rw [Nat.add_assoc, h.row.range k hk (d + j) _ (List.getElem?_eq_getElem (by rw [D.len]; omega))]; rfl
end Go.Proofs.YtpdmmmdkpipmkaaGreatDoor
