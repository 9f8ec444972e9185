/-
  The mathematics of layer 13, as loops meet it: literal by literal, rule by rule. No program in this text.
-/
import Derived.WalkKit
import Derived.Test.YtpdmmmdkpipmkaaGreatDoorQLa
import Derived.Test.YtpdmmmdkpipmkaaGreatDoorQCc
import Derived.Test.YtpdmmmdkpipmkaaGreatDoorQPa
namespace Go.Proofs.YtpdmmmdkpipmkaaGreatDoor
namespace Lc

theorem steps_rem {i : Nat} {r : Ru} {k : Nat} {L : List Lt} (hk : k < r.body.length) (hr : rem r r.body[k] = true) :
    steps i r k (r.body.drop k) L = askR i r k r.body[k] L :: tellR i r k r.body[k] :: steps i r (k + 1) (r.body.drop (k + 1)) [tellL i r k r.body[k]] := by
  rw [List.drop_eq_getElem_cons hk, steps, if_pos hr]
theorem steps_here {i : Nat} {r : Ru} {k : Nat} {L : List Lt} (hk : k < r.body.length) (hr : rem r r.body[k] = false) :
    steps i r k (r.body.drop k) L = steps i r (k + 1) (r.body.drop (k + 1)) (L ++ [noAt r.body[k]]) := by
  rw [List.drop_eq_getElem_cons hk, steps, if_neg (by rw [hr]; simp)]
theorem steps_end {i : Nat} {r : Ru} {k : Nat} {L : List Lt} (hk : r.body.length ≤ k) : steps i r k (r.body.drop k) L = [lastR r L] := by
  rw [List.drop_of_length_le hk, steps]
/-- what was told so far, what was reached, and what is left make the whole -/
def Way (i : Nat) (r : Ru) (k : Nat) (out : List Ru) (L : List Lt) : Prop := one i r = out ++ steps i r k (r.body.drop k) L
theorem Way.start (i : Nat) (r : Ru) : Way i r 0 [] [] := rfl
theorem Way.rem {i : Nat} {r : Ru} {k : Nat} {out : List Ru} {L : List Lt} (h : Way i r k out L) (hk : k < r.body.length) (hr : rem r r.body[k] = true) : Way i r (k + 1) (out ++ [askR i r k r.body[k] L, tellR i r k r.body[k]]) [tellL i r k r.body[k]] := by
  unfold Way at h ⊢
  rw [h, steps_rem hk hr, List.append_assoc]; rfl
theorem Way.here {i : Nat} {r : Ru} {k : Nat} {out : List Ru} {L : List Lt} (h : Way i r k out L) (hk : k < r.body.length) (hr : Lc.rem r r.body[k] = false) : Way i r (k + 1) out (L ++ [noAt r.body[k]]) := by
  unfold Way at h ⊢
  rw [h, steps_here hk hr]
theorem Way.done {i : Nat} {r : Ru} {k : Nat} {out : List Ru} {L : List Lt} (h : Way i r k out L) (hk : r.body.length ≤ k) : one i r = out ++ [lastR r L] := by
  unfold Way at h
  rw [h, steps_end hk]
/-- rule by rule -/
def WayR (l : List Ru) (i : Nat) (out : List Ru) : Prop := rw 0 l = out ++ rw i (l.drop i)
theorem WayR.start (l : List Ru) : WayR l 0 [] := rfl
theorem WayR.step {l : List Ru} {i : Nat} {out : List Ru} (h : WayR l i out) (hi : i < l.length) : WayR l (i + 1) (out ++ one i l[i]) := by
  unfold WayR at h ⊢
  rw [h, List.drop_eq_getElem_cons hi, Lc.rw, List.append_assoc]
theorem WayR.done {l : List Ru} {i : Nat} {out : List Ru} (h : WayR l i out) (hi : l.length ≤ i) : rw 0 l = out := by
  unfold WayR at h
  rw [h, List.drop_of_length_le hi, Lc.rw, List.append_nil]
/-- facts one by one: which are seen -/
theorem seen_snoc {l : List F} {i : Nat} (hi : i < l.length) : seen (l.take (i + 1)) = seen (l.take i) ++ (if relay l[i].pred = true then [] else [l[i]]) := by
  rw [List.take_succ_eq_append_getElem hi, seen, List.filter_append]
  congr 1
  cases h : relay l[i].pred <;> simp [h]
theorem relay_iff (p : List UInt8) : relay p = true ↔ ∃ h : 0 < p.length, p[0] = 126 := by
  cases p with
  | nil => simp [relay]
  | cons c r => simp [relay]
/-- how many rules come at most -/
theorem steps_le {i : Nat} {r : Ru} : ∀ {ys : List Lt} {k : Nat} {L : List Lt}, (steps i r k ys L).length ≤ 2 * ys.length + 1
  | [], _, _ => by simp [steps]
  | y :: ys, k, L => by
    rw [steps]
    split
    · have := steps_le (i := i) (r := r) (ys := ys) (k := k + 1) (L := [tellL i r k y]); simp only [List.length_cons]; omega
    · have := steps_le (i := i) (r := r) (ys := ys) (k := k + 1) (L := L ++ [noAt y]); simp only [List.length_cons]; omega
theorem one_le (i : Nat) (r : Ru) : (one i r).length ≤ 2 * r.body.length + 1 := steps_le
end Lc
end Go.Proofs.YtpdmmmdkpipmkaaGreatDoor

/-
  The mathematics of layer 13: values by bindings that agree, what is bound has a value, instances of rules in plain words. No program in this text.
-/
namespace Go.Proofs.YtpdmmmdkpipmkaaGreatDoor
namespace Lc
open Mt (Tx Env nul get val uni nm unis place lit name vals fact head bodyF body lits)
open Ck (bnd vars wv wl)

/-! bindings that agree -/
def Ag (B : List Tx) (d e : Env) : Prop := ∀ v ∈ B, v ≠ [] → get v d = get v e
def In (B : List Tx) (t : Tm) : Prop := t.v = [] ∨ t.v ∈ B
def InL (B : List Tx) (y : Lt) : Prop := In B y.by_ ∧ (∀ t ∈ y.args, In B t) ∧ In B y.at_
theorem In.mono {B C : List Tx} {t : Tm} (h : In B t) (hs : ∀ v ∈ B, v ∈ C) : In C t := h.imp id (hs _)
theorem InL.mono {B C : List Tx} {y : Lt} (h : InL B y) (hs : ∀ v ∈ B, v ∈ C) : InL C y := ⟨h.1.mono hs, fun t ht => (h.2.1 t ht).mono hs, h.2.2.mono hs⟩
theorem val_ag {B : List Tx} {d e : Env} {t : Tm} (h : Ag B d e) (ht : In B t) : val t d = val t e := by
  unfold val
  by_cases hv : t.v = []
  · rw [if_pos hv, if_pos hv]
  · rw [if_neg hv, if_neg hv, h t.v (ht.resolve_left hv) hv]
theorem vals_ag {B : List Tx} {d e : Env} (h : Ag B d e) : ∀ {ts : List Tm}, (∀ t ∈ ts, In B t) → vals d ts = vals e ts
  | [], _ => rfl
  | t :: ts, hs => by
    rw [vals, vals, val_ag h (hs t (List.mem_cons_self ..)), vals_ag h fun u hu => hs u (List.mem_cons_of_mem _ hu)]
theorem fact_ag {B : List Tx} {d e : Env} (h : Ag B d e) {a b : Tm} {p : Tx} {ts : List Tm} (ha : In B a) (hb : In B b) (hs : ∀ t ∈ ts, In B t) : fact a b p ts d = fact a b p ts e := by
  unfold fact name
  rw [val_ag h ha, val_ag h hb, vals_ag h hs]
theorem place_in {B : List Tx} {a b : Tm} (ha : In B a) (hb : In B b) : In B (place a b) := by
  unfold place; split
  · exact ha
  · exact hb
theorem bodyF_ag {B : List Tx} {d e : Env} (h : Ag B d e) {home : Tm} {y : Lt} (hh : In B home) (hy : InL B y) : bodyF home y d = bodyF home y e :=
  fact_ag h (place_in hh hy.2.2) (place_in (place_in hh hy.2.2) hy.1) hy.2.1
theorem body_ag {B : List Tx} {d e : Env} (h : Ag B d e) {home : Tm} (hh : In B home) : ∀ {ls : List Lt}, (∀ y ∈ ls, InL B y) → body home d ls = body home e ls
  | [], _ => rfl
  | y :: ys, hs => by
    rw [body, body, bodyF_ag h hh (hs y (List.mem_cons_self ..)), body_ag h hh fun u hu => hs u (List.mem_cons_of_mem _ hu)]

/-! what is bound -/
theorem in_wv (l : List Tx) (t : Tm) : In (wv l t) t := by
  unfold wv; split
  · rename_i h; exact h
  · exact .inr (by simp)
theorem wv_sub {l : List Tx} {t : Tm} {v : Tx} (h : v ∈ l) : v ∈ wv l t := by
  obtain ⟨m, hm⟩ := Ck.wv_pre l t
  rw [hm]; exact List.mem_append_left _ h
theorem fold_sub {l : List Tx} {ts : List Tm} {v : Tx} (h : v ∈ l) : v ∈ ts.foldl wv l := by
  obtain ⟨m, hm⟩ := Ck.fold_pre ts l
  rw [hm]; exact List.mem_append_left _ h
theorem wl_sub {l : List Tx} {y : Lt} {v : Tx} (h : v ∈ l) : v ∈ wl l y := by
  obtain ⟨m, hm⟩ := Ck.wl_pre l y
  rw [hm]; exact List.mem_append_left _ h
theorem wls_sub {v : Tx} : ∀ {ys : List Lt} {l : List Tx}, v ∈ l → v ∈ ys.foldl wl l
  | [], _, h => h
  | _ :: ys, _, h => wls_sub (ys := ys) (wl_sub h)
theorem in_fold : ∀ (ts : List Tm) (l : List Tx), ∀ t ∈ ts, In (ts.foldl wv l) t
  | [], _, t, h => by cases h
  | u :: ts, l, t, h => by
    rcases List.mem_cons.1 h with rfl | h
    · exact (in_wv l t).mono fun v hv => fold_sub (ts := ts) hv
    · exact in_fold ts (wv l u) t h
theorem in_wl (l : List Tx) (y : Lt) : InL (wl l y) y :=
  ⟨(in_wv l y.by_).mono fun _ hv => wv_sub (fold_sub hv), fun t ht => (in_fold y.args _ t ht).mono fun _ hv => wv_sub hv, in_wv _ _⟩
theorem in_wls : ∀ (ys : List Lt) (l : List Tx), ∀ y ∈ ys, InL (ys.foldl wl l) y
  | [], _, y, h => by cases h
  | u :: ys, l, y, h => by
    rcases List.mem_cons.1 h with rfl | h
    · exact (in_wl l y).mono fun v hv => wls_sub (ys := ys) hv
    · exact in_wls ys (wl l u) y h
theorem home_bnd (r : Ru) (k : Nat) : In (bnd r k) r.home := (in_wv [] r.home).mono fun _ hv => wls_sub hv
theorem body_bnd (r : Ru) (k : Nat) : ∀ y ∈ r.body.take k, InL (bnd r k) y := in_wls _ _
theorem ne_wv {l : List Tx} {t : Tm} (h : ∀ v ∈ l, v ≠ []) : ∀ v ∈ wv l t, v ≠ [] := by
  unfold wv; split
  · exact h
  · rename_i hn
    intro v hv
    rcases List.mem_append.1 hv with hv | hv
    · exact h v hv
    · rw [List.mem_singleton] at hv; rw [hv]; exact fun he => hn (.inl he)
theorem ne_fold : ∀ {ts : List Tm} {l : List Tx}, (∀ v ∈ l, v ≠ []) → ∀ v ∈ ts.foldl wv l, v ≠ []
  | [], _, h => h
  | _ :: ts, _, h => ne_fold (ts := ts) (ne_wv h)
theorem ne_wls : ∀ {ys : List Lt} {l : List Tx}, (∀ v ∈ l, v ≠ []) → ∀ v ∈ ys.foldl wl l, v ≠ []
  | [], _, h => h
  | y :: ys, l, h => ne_wls (ys := ys) (l := wl l y) (ne_wv (ne_fold (ne_wv h)))
theorem bnd_ne (r : Ru) (k : Nat) : ∀ v ∈ bnd r k, v ≠ [] := ne_wls (ne_wv fun _ h => by cases h)
theorem body_mem {home : Tm} {d : Env} : ∀ {ls : List Lt} {fs : List F}, body home d ls = some fs → ∀ y ∈ ls, ∃ f ∈ fs, bodyF home y d = some f
  | [], _, _, y, h => by cases h
  | u :: ls, fs, hb, y, h => by
    rw [body] at hb
    obtain ⟨f, hf, hb⟩ := Option.bind_eq_some_iff.1 hb
    obtain ⟨gs, hg, rfl⟩ := Option.map_eq_some_iff.1 hb
    rcases List.mem_cons.1 h with rfl | h
    · exact ⟨f, List.mem_cons_self .., hf⟩
    · obtain ⟨g, hm, hg⟩ := body_mem hg y h
      exact ⟨g, List.mem_cons_of_mem _ hm, hg⟩
theorem body_app {home : Tm} {d : Env} : ∀ {a b : List Lt} {fs : List F}, body home d (a ++ b) = some fs ↔ ∃ x y, fs = x ++ y ∧ body home d a = some x ∧ body home d b = some y
  | [], b, fs => by
    constructor
    · intro h; exact ⟨[], fs, rfl, rfl, h⟩
    · rintro ⟨x, y, rfl, h1, h2⟩
      rw [body] at h1; cases h1; exact h2
  | u :: a, b, fs => by
    rw [List.cons_append, body, body]
    constructor
    · intro h
      obtain ⟨f, hf, h⟩ := Option.bind_eq_some_iff.1 h
      obtain ⟨gs, hg, rfl⟩ := Option.map_eq_some_iff.1 h
      obtain ⟨x, y, rfl, h1, h2⟩ := body_app.1 hg
      exact ⟨f :: x, y, rfl, by rw [hf, h1]; rfl, h2⟩
    · rintro ⟨x, y, rfl, h1, h2⟩
      obtain ⟨f, hf, h1⟩ := Option.bind_eq_some_iff.1 h1
      obtain ⟨gs, hg, rfl⟩ := Option.map_eq_some_iff.1 h1
      rw [hf, body_app.2 ⟨gs, y, rfl, hg, h2⟩]; rfl
theorem body_one {home : Tm} {d : Env} {y : Lt} {fs : List F} : body home d [y] = some fs ↔ ∃ f, fs = [f] ∧ bodyF home y d = some f := by
  rw [body]
  constructor
  · intro h
    obtain ⟨f, hf, h⟩ := Option.bind_eq_some_iff.1 h
    obtain ⟨gs, hg, rfl⟩ := Option.map_eq_some_iff.1 h
    rw [body] at hg; cases hg
    exact ⟨f, rfl, hf⟩
  · rintro ⟨f, rfl, hf⟩
    rw [hf]; rfl
/-- where literals have values, each variable that they bind has one -/
theorem bnd_get {r : Ru} {k : Nat} {d : Env} {fs : List F} {c : K} (hb : body r.home d (r.body.take k) = some fs) (hh : val r.home d = some c) : ∀ v ∈ bnd r k, ∃ c, get v d = some c := by
  intro v hv
  have hne := bnd_ne r k v hv
  rcases Mt.mem_wls hv with h | ⟨y, hy, h⟩
  · rcases Mt.mem_wv h with h | rfl
    · cases h
    · exact ⟨_, Mt.val_get hne hh⟩
  · obtain ⟨f, _, hf⟩ := body_mem hb y hy
    obtain ⟨h1, h2, h3, h4⟩ := Mt.fact_parts hf
    rcases h with rfl | ⟨t, ht, rfl⟩ | rfl
    · rw [place_ne (fun he => hne (by rw [he]; rfl))] at h2
      exact ⟨_, Mt.val_get hne h2⟩
    · obtain ⟨i, hi, rfl⟩ := List.getElem_of_mem ht
      obtain ⟨hl, hv⟩ := Mt.vals_val h4
      exact ⟨_, Mt.val_get hne (hv i hi (by omega))⟩
    · rw [place_ne (fun he => hne (by rw [he]; rfl))] at h1
      exact ⟨_, Mt.val_get hne h1⟩
theorem val_var {v : Tx} {d : Env} (h : v ≠ []) : val ⟨v, k0⟩ d = get v d := by
  unfold val
  rw [if_neg (by rw [Mt.nul_v (t := ⟨v, k0⟩) h]; decide), if_neg h]
theorem vals_vts {d : Env} : ∀ {B : List Tx}, (∀ v ∈ B, v ≠ []) → (∀ v ∈ B, ∃ c, get v d = some c) → ∃ ks, vals d (vts B) = some ks
  | [], _, _ => ⟨[], rfl⟩
  | v :: B, hn, hg => by
    obtain ⟨c, hc⟩ := hg v (List.mem_cons_self ..)
    obtain ⟨ks, hk⟩ := vals_vts (B := B) (fun u hu => hn u (List.mem_cons_of_mem _ hu)) fun u hu => hg u (List.mem_cons_of_mem _ hu)
    refine ⟨c :: ks, ?_⟩
    show (val ⟨v, k0⟩ d).bind (fun c => (vals d (vts B)).map fun cs => c :: cs) = _
    rw [val_var (hn v (List.mem_cons_self ..)), hc, hk]; rfl
theorem ag_of {d e : Env} : ∀ {B : List Tx} {ks : List K}, vals d (vts B) = some ks → vals e (vts B) = some ks → Ag B d e
  | [], _, _, _ => fun v h => by cases h
  | v :: B, ks, h1, h2 => by
    replace h1 : (val ⟨v, k0⟩ d).bind (fun c => (vals d (vts B)).map fun cs => c :: cs) = some ks := h1
    replace h2 : (val ⟨v, k0⟩ e).bind (fun c => (vals e (vts B)).map fun cs => c :: cs) = some ks := h2
    obtain ⟨c, hc, h1⟩ := Option.bind_eq_some_iff.1 h1
    obtain ⟨c', hc', h2⟩ := Option.bind_eq_some_iff.1 h2
    obtain ⟨a, ha, h1⟩ := Option.map_eq_some_iff.1 h1
    obtain ⟨b, hb, h2⟩ := Option.map_eq_some_iff.1 h2
    subst h1
    simp only [List.cons.injEq] at h2
    obtain ⟨rfl, rfl⟩ := h2
    intro u hu hn
    rcases List.mem_cons.1 hu with rfl | hu
    · rw [← val_var hn, ← val_var hn, hc, hc']
    · exact ag_of ha hb u hu hn

/-! instances of rules in plain words -/
theorem vals_ext {e m : Env} : ∀ {ts : List Tm} {ks : List K}, vals e ts = some ks → vals (e ++ m) ts = some ks
  | [], _, h => h
  | t :: ts, ks, h => by
    rw [vals] at h ⊢
    obtain ⟨c, hc, h⟩ := Option.bind_eq_some_iff.1 h
    obtain ⟨a, ha, rfl⟩ := Option.map_eq_some_iff.1 h
    rw [Mt.val_ext hc m, vals_ext ha]; rfl
theorem bodyF_ext {e : Env} {home : Tm} {y : Lt} {f : F} (h : bodyF home y e = some f) (m : Env) : bodyF home y (e ++ m) = some f := by
  obtain ⟨h1, h2, h3, h4⟩ := Mt.fact_parts h
  exact Mt.parts_fact (Mt.val_ext h1 m) (Mt.val_ext h2 m) h3 (vals_ext h4)
theorem has_bodyF {home : Tm} {y : Lt} {f : F} {e : Env} (h : Mt.Has home y f e) : bodyF home y e = some f := by
  refine Mt.parts_fact h.at_ ?_ h.pred.symm (Mt.val_vals h.len h.args)
  have hb := h.by_
  by_cases hn : nul y.by_ = true
  · rw [if_pos hn] at hb
    have : place (place home y.at_) y.by_ = place home y.at_ := by rw [(nul_iff _).1 hn, place_t0]
    rw [this, hb]; exact h.at_
  · rw [if_neg hn] at hb
    rw [place_ne (fun he => hn ((nul_iff _).2 he))]; exact hb
theorem lits_body {home : Tm} : ∀ {ls : List Lt} {fs : List F} {e e2 : Env}, lits home ls fs e = some e2 → body home e2 ls = some fs
  | [], [], e, e2, _ => rfl
  | l :: ls, f :: fs, e, e2, h => by
    rw [lits] at h
    obtain ⟨e1, h1, h2⟩ := Option.bind_eq_some_iff.1 h
    obtain ⟨m, rfl⟩ := Ml.lits_ext h2
    rw [body, bodyF_ext (has_bodyF (Mt.lit_has h1).2) m, lits_body h2]; rfl
  | [], f :: fs, e, e2, h => by cases h
  | l :: ls, [], e, e2, h => by cases h
theorem ins_out {w : Ml.Wd} {l : List Ru} {m : List F} {f : F} (h : Ml.Ins w l m f) : ∃ r ∈ l, f.by_ ∈ w.homes ∧ f.at_ ∈ w.names ∧ ∃ d fs, (∀ x ∈ fs, x ∈ m) ∧ body r.home d r.body = some fs ∧ head r d = some f := by
  have hp := h.place
  obtain ⟨r, hr, h, _, e, _, fs, h1, e2, h2, h3, _⟩ := h
  exact ⟨r, hr, hp.2, hp.1, e2, fs, h1, lits_body h2, h3⟩
theorem ins_in {w : Ml.Wd} {l : List Ru} {m : List F} {f : F} {r : Ru} {d : Env} {fs : List F} (hr : r ∈ l) (hb : f.by_ ∈ w.homes) (hn : f.at_ ∈ w.names) (hs : ∀ x ∈ fs, x ∈ m) (hd : body r.home d r.body = some fs) (hh : head r d = some f) (ho : ∀ t, (t ∈ r.args ∨ t = r.to_) → t.v ≠ [] → Mt.Of r t.v) : Ml.Ins w l m f := by
  obtain ⟨e1, e2, u1, u2, u3⟩ := Mt.instances hh hd ho
  exact ⟨r, hr, f.by_, hb, e1, u1, fs, hs, e2, u2, u3, hn⟩
end Lc
end Go.Proofs.YtpdmmmdkpipmkaaGreatDoor

/-
  The mathematics of layer 13: the least model of rewritten rules, without relays, is that of the rules. No program in this text.
-/
namespace Go.Proofs.YtpdmmmdkpipmkaaGreatDoor
namespace Lc
open Mt (Tx Env nul get val nm place name vals fact head bodyF body)
open Ck (bnd vars wv wl)

theorem rem_yes {r : Ru} {y : Lt} (h : rem r y = true) : y.at_ ≠ t0 ∧ y.at_ ≠ r.home := by
  unfold rem at h
  simp only [Bool.and_eq_true, Bool.not_eq_true'] at h
  refine ⟨fun e => ?_, fun e => ?_⟩
  · rw [(eqT_iff _ _).2 e] at h; exact Bool.noConfusion h.1
  · rw [(eqT_iff _ _).2 e] at h; exact Bool.noConfusion h.2
theorem rem_no {r : Ru} {y : Lt} (h : ¬ rem r y = true) : y.at_ = t0 ∨ y.at_ = r.home := by
  unfold rem at h
  simp only [Bool.and_eq_true, Bool.not_eq_true', not_and, Bool.not_eq_false] at h
  by_cases he : y.at_ = t0
  · exact .inl he
  · exact .inr ((eqT_iff _ _).1 (h (by rw [Bool.eq_false_iff]; exact fun hh => he ((eqT_iff _ _).1 hh))))
theorem noAt_same {r : Ru} {y : Lt} (h : ¬ rem r y = true) (d : Env) : bodyF r.home (noAt y) d = bodyF r.home y d := by
  have e : place r.home y.at_ = r.home := by
    rcases rem_no h with he | he
    · rw [he, place_t0]
    · rw [he]; unfold place; split <;> rfl
  unfold bodyF noAt
  simp only [place_t0, e]
theorem noAt_there {r : Ru} {y : Lt} (h : y.at_ ≠ t0) (d : Env) : bodyF y.at_ (noAt y) d = bodyF r.home y d := by
  unfold bodyF noAt
  simp only [place_t0, place_ne h]
theorem head_ask {i k : Nat} {r : Ru} {y : Lt} {L : List Lt} (h : y.at_ ≠ t0) (d : Env) : head (askR i r k y L) d = fact y.at_ r.home (askN i k) (vts (bnd r k)) d := by
  unfold head askR
  simp only [place_ne h]
theorem head_tell {i k : Nat} {r : Ru} {y : Lt} (h : r.home ≠ t0) (d : Env) : head (tellR i r k y) d = fact r.home y.at_ (tellN i k) (vts (bnd r (k + 1))) d := by
  unfold head tellR
  simp only [place_ne h]
theorem lit_ask {i k : Nat} {r : Ru} {y : Lt} (h : r.home ≠ t0) (d : Env) : bodyF y.at_ (askL i r k) d = fact y.at_ r.home (askN i k) (vts (bnd r k)) d := by
  unfold bodyF askL
  simp only [place_t0, place_ne h]
theorem lit_tell {i k : Nat} {r : Ru} {y : Lt} (h : y.at_ ≠ t0) (d : Env) : bodyF r.home (tellL i r k y) d = fact r.home y.at_ (tellN i k) (vts (bnd r (k + 1))) d := by
  unfold bodyF tellL
  simp only [place_t0, place_ne h]

/-! what relays say -/
def AskP (l : List Ru) (n : List F) (x : F) (i k : Nat) : Prop := ∃ r y, l[i]? = some r ∧ r.body[k]? = some y ∧ ∃ d fs, (∀ z ∈ fs, z ∈ n) ∧ body r.home d (r.body.take k) = some fs ∧ fact y.at_ r.home (askN i k) (vts (bnd r k)) d = some x
def TellP (l : List Ru) (n : List F) (x : F) (i k : Nat) : Prop := ∃ r y, l[i]? = some r ∧ r.body[k]? = some y ∧ ∃ d fs, (∀ z ∈ fs, z ∈ n) ∧ body r.home d (r.body.take (k + 1)) = some fs ∧ fact r.home y.at_ (tellN i k) (vts (bnd r (k + 1))) d = some x
structure P (l : List Ru) (n : List F) (x : F) : Prop where
  plain : relay x.pred = false → x ∈ n
  ask : ∀ i k, x.pred = askN i k → AskP l n x i k
  tell : ∀ i k, x.pred = tellN i k → TellP l n x i k
theorem P.of {l : List Ru} {n : List F} {x : F} (h : relay x.pred = false) (hx : x ∈ n) : P l n x :=
  ⟨fun _ => hx, fun i k he => (by rw [he, relay_ask] at h; cases h), fun i k he => (by rw [he, relay_tell] at h; cases h)⟩
/-- what was reached says as much as the literals so far -/
def Good (l : List Ru) (n : List F) (r : Ru) (k : Nat) (L : List Lt) : Prop := ∀ d fs', (∀ x ∈ fs', P l n x) → body r.home d L = some fs' → ∃ fs, (∀ z ∈ fs, z ∈ n) ∧ body r.home d (r.body.take k) = some fs
theorem steps_P {w : Ml.Wd} {l : List Ru} {n : List F} {i : Nat} {r : Ru} (hi : l[i]? = some r) (hf : Fine r) (hc : Ml.Closed w l n) : ∀ (ys : List Lt) (k : Nat) (L : List Lt), r.body.drop k = ys → Good l n r k L → ∀ r' ∈ steps i r k ys L, ∀ d fs' f, (∀ x ∈ fs', P l n x) → body r'.home d r'.body = some fs' → head r' d = some f → f.by_ ∈ w.homes → f.at_ ∈ w.names → P l n f
  | [], k, L, hk, hg, r', hr', d, fs', f, hs, hb, hh, hby, hat => by
    rw [steps, List.mem_singleton] at hr'
    subst hr'
    obtain ⟨fs, h1, h2⟩ := hg d fs' hs hb
    have hl : r.body.length ≤ k := by
      have := congrArg List.length hk
      rw [List.length_drop, List.length_nil] at this
      omega
    rw [List.take_of_length_le hl] at h2
    have hp : f.pred = r.pred := (Mt.fact_parts (show fact (place r.home r.to_) r.home r.pred r.args d = some f from hh)).2.2.1
    refine P.of (by rw [hp]; exact hf.pred) (hc f (ins_in (List.mem_of_getElem? hi) hby hat h1 h2 hh fun t ht hv => Mt.mem_vars (hf.args t ht hv)))
  | y :: ys, k, L, hk, hg, r', hr', d, fs', f, hs, hb, hh, hby, hat => by
    have hkl : k < r.body.length := by
      have := congrArg List.length hk
      rw [List.length_drop, List.length_cons] at this
      omega
    have hd := List.drop_eq_getElem_cons hkl
    rw [hk] at hd
    obtain ⟨hy, hys⟩ := List.cons.inj hd
    have hyk : r.body[k]? = some y := by rw [List.getElem?_eq_getElem hkl, hy]
    have hym : y ∈ r.body := List.mem_of_getElem? hyk
    have htk : r.body.take (k + 1) = r.body.take k ++ [y] := by rw [List.take_succ_eq_append_getElem hkl, ← hy]
    rw [steps] at hr'
    split at hr'
    · rename_i hrem
      obtain ⟨hn0, _⟩ := rem_yes hrem
      rcases List.mem_cons.1 hr' with rfl | hr'
      · obtain ⟨fs, h1, h2⟩ := hg d fs' hs hb
        rw [head_ask hn0] at hh
        have hp := (Mt.fact_parts hh).2.2.1
        refine ⟨fun hr => (by rw [hp, relay_ask] at hr; cases hr), fun i' k' he => ?_, fun i' k' he => absurd (hp.symm.trans he) ask_tell⟩
        obtain ⟨rfl, rfl⟩ := askN_inj (hp.symm.trans he)
        exact ⟨r, y, hi, hyk, d, fs, h1, h2, hh⟩
      · rcases List.mem_cons.1 hr' with rfl | hr'
        · have hb' : body y.at_ d ([askL i r k] ++ [noAt y]) = some fs' := hb
          obtain ⟨xs, zs, rfl, c1, c2⟩ := body_app.1 hb'
          obtain ⟨x1, rfl, b1⟩ := body_one.1 c1
          obtain ⟨x2, rfl, b2⟩ := body_one.1 c2
          rw [lit_ask hf.home] at b1
          rw [noAt_there hn0 (r := r)] at b2
          have p1 := (Mt.fact_parts b1).2.2.1
          obtain ⟨r0, y0, g1, g2, d0, fs0, g3, g4, g5⟩ := (hs x1 (by simp)).ask i k p1
          rw [hi] at g1; cases g1
          rw [hyk] at g2; cases g2
          have ag : Ag (bnd r k) d0 d := ag_of (Mt.fact_parts g5).2.2.2 (Mt.fact_parts b1).2.2.2
          rw [body_ag ag (home_bnd r k) (body_bnd r k)] at g4
          have hx2 : x2 ∈ n := (hs x2 (by simp)).plain (by
            rw [(Mt.fact_parts b2).2.2.1]; exact hf.body y hym)
          rw [head_tell hf.home] at hh
          have hp := (Mt.fact_parts hh).2.2.1
          refine ⟨fun hr => (by rw [hp, relay_tell] at hr; cases hr), fun i' k' he => absurd (he.symm.trans hp) ask_tell, fun i' k' he => ?_⟩
          obtain ⟨rfl, rfl⟩ := tellN_inj (hp.symm.trans he)
          refine ⟨r, y, hi, hyk, d, fs0 ++ [x2], fun z hz => ?_, ?_, hh⟩
          · rcases List.mem_append.1 hz with hz | hz
            · exact g3 z hz
            · rw [List.mem_singleton] at hz; rw [hz]; exact hx2
          · rw [htk]
            exact body_app.2 ⟨fs0, [x2], rfl, g4, body_one.2 ⟨x2, rfl, b2⟩⟩
        · refine steps_P hi hf hc ys (k + 1) _ hys.symm (fun e gs hgs he => ?_) r' hr' d fs' f hs hb hh hby hat
          obtain ⟨x, rfl, hx⟩ := body_one.1 he
          rw [lit_tell hn0] at hx
          obtain ⟨r0, y0, g1, g2, d0, fs0, g3, g4, g5⟩ := (hgs x (by simp)).tell i k (Mt.fact_parts hx).2.2.1
          rw [hi] at g1; cases g1
          rw [hyk] at g2; cases g2
          have ag : Ag (bnd r (k + 1)) d0 e := ag_of (Mt.fact_parts g5).2.2.2 (Mt.fact_parts hx).2.2.2
          rw [body_ag ag (home_bnd r (k + 1)) (body_bnd r (k + 1))] at g4
          exact ⟨fs0, g3, g4⟩
    · rename_i hrem
      refine steps_P hi hf hc ys (k + 1) _ hys.symm (fun e gs hgs he => ?_) r' hr' d fs' f hs hb hh hby hat
      obtain ⟨xs, zs, rfl, b1, c2⟩ := body_app.1 he
      obtain ⟨x, rfl, b2⟩ := body_one.1 c2
      rw [noAt_same hrem] at b2
      obtain ⟨fs, g1, g2⟩ := hg e xs (fun z hz => hgs z (List.mem_append_left _ hz)) b1
      have hx : x ∈ n := (hgs x (List.mem_append_right _ (List.mem_singleton.2 rfl))).plain (by
        rw [(Mt.fact_parts b2).2.2.1]; exact hf.body y hym)
      refine ⟨fs ++ [x], fun z hz => ?_, ?_⟩
      · rcases List.mem_append.1 hz with hz | hz
        · exact g1 z hz
        · rw [List.mem_singleton] at hz; rw [hz]; exact hx
      · rw [htk]
        exact body_app.2 ⟨fs, [x], rfl, g2, body_one.2 ⟨x, rfl, b2⟩⟩
theorem mem_rw : ∀ {l : List Ru} {i0 : Nat} {r' : Ru}, r' ∈ rw i0 l ↔ ∃ j r, l[j]? = some r ∧ r' ∈ one (i0 + j) r
  | [], i0, r' => by simp [rw]
  | r :: l, i0, r' => by
    rw [rw, List.mem_append, mem_rw]
    constructor
    · rintro (h | ⟨j, q, hq, h⟩)
      · exact ⟨0, r, rfl, h⟩
      · exact ⟨j + 1, q, hq, by rw [show i0 + (j + 1) = i0 + 1 + j by omega]; exact h⟩
    · rintro ⟨j, q, hq, h⟩
      cases j with
      | zero => cases hq; exact .inl h
      | succ j => exact .inr ⟨j, q, hq, by rw [show i0 + 1 + j = i0 + (j + 1) by omega]; exact h⟩
/-- nothing new -/
theorem rw_sub {w : Ml.Wd} {l : List Ru} {b n n' : List F} (hl : ∀ r ∈ l, Fine r) (hb : ∀ x ∈ b, relay x.pred = false) (h : Ml.Lst w l (sortF b) (some n)) (h' : Ml.Lst w (rw 0 l) (sortF b) (some n')) : ∀ x ∈ n', P l n x := by
  obtain ⟨_, i2, i3, _⟩ := h.got (sortF_SS _)
  refine h'.pred (sortF_SS _) (fun x hx => P.of (hb x ((mem_sortF _ _).1 hx)) (i2 x hx)) fun m' hm' f hf => ?_
  obtain ⟨r', hr', hby, hat, d, fs, hs, hd, hh⟩ := ins_out hf
  obtain ⟨j, r, hj, hr'⟩ := mem_rw.1 hr'
  rw [Nat.zero_add] at hr'
  refine steps_P hj (hl r (List.mem_of_getElem? hj)) i3 r.body 0 [] rfl (fun e gs _ he => ?_) r' hr' d fs f (fun x hx => hm' x (hs x hx)) hd hh hby hat
  exact ⟨[], (fun _ h => by cases h), rfl⟩

/-! nothing is lost -/
theorem steps_in {w : Ml.Wd} {R : List Ru} {m : List F} {i : Nat} {r : Ru} {d : Env} {fs : List F} {f : F} (hf : Fine r) (hw : w.homes = w.names) (hc : Ml.Closed w R m) (ha : ∀ x ∈ m, x.at_ ∈ w.names) (hs : ∀ x ∈ fs, x ∈ m) (hb : body r.home d r.body = some fs) (hh : head r d = some f) (hby : f.by_ ∈ w.homes) (hat : f.at_ ∈ w.names) :
    ∀ (ys : List Lt) (k : Nat) (L : List Lt), r.body.drop k = ys → (∀ r' ∈ steps i r k ys L, r' ∈ R) → (∃ gs, (∀ x ∈ gs, x ∈ m) ∧ body r.home d L = some gs) → (∀ v ∈ bnd r k, Mt.Of (lastR r L) v) → f ∈ m
  | [], k, L, hk, hR, ⟨gs, g1, g2⟩, ho => by
    have hl : r.body.length ≤ k := by
      have := congrArg List.length hk
      rw [List.length_drop, List.length_nil] at this
      omega
    refine hc f (ins_in (r := lastR r L) (hR _ (by rw [steps]; exact List.mem_singleton.2 rfl)) hby hat g1 g2 hh fun t ht hv => ho t.v ?_)
    rw [Ck.bnd_all hl]
    exact hf.args t ht hv
  | y :: ys, k, L, hk, hR, ⟨gs, g1, g2⟩, ho => by
    have hkl : k < r.body.length := by
      have := congrArg List.length hk
      rw [List.length_drop, List.length_cons] at this
      omega
    have hd := List.drop_eq_getElem_cons hkl
    rw [hk] at hd
    obtain ⟨hy, hys⟩ := List.cons.inj hd
    have hym : y ∈ r.body := List.mem_of_getElem? (show r.body[k]? = some y by rw [List.getElem?_eq_getElem hkl, hy])
    have hbs : bnd r (k + 1) = wl (bnd r k) y := by rw [Ck.bnd_succ hkl, ← hy]
    obtain ⟨g, hg, hgy⟩ := body_mem hb y hym
    have hhome : val r.home d = some (nm f.by_) := (Mt.fact_parts (show fact (place r.home r.to_) r.home r.pred r.args d = some f from hh)).2.1
    have part : ∀ q, ∃ ks, vals d (vts (bnd r q)) = some ks := fun q => by
      have hq : body r.home d (r.body.take q ++ r.body.drop q) = some fs := by rw [List.take_append_drop]; exact hb
      obtain ⟨xs, _, _, h1, _⟩ := body_app.1 hq
      exact vals_vts (bnd_ne r q) (bnd_get h1 hhome)
    rw [steps] at hR
    split at hR
    · rename_i hrem
      obtain ⟨hn0, _⟩ := rem_yes hrem
      have hgat : val y.at_ d = some (nm g.at_) := by
        have := (Mt.fact_parts hgy).1
        rw [place_ne hn0] at this; exact this
      obtain ⟨k1, q1⟩ := part k
      obtain ⟨k2, q2⟩ := part (k + 1)
      have ask : fact y.at_ r.home (askN i k) (vts (bnd r k)) d = some ⟨g.at_, f.by_, askN i k, k1⟩ := Mt.parts_fact hgat hhome rfl q1
      have tell : fact r.home y.at_ (tellN i k) (vts (bnd r (k + 1))) d = some ⟨f.by_, g.at_, tellN i k, k2⟩ := Mt.parts_fact hhome hgat rfl q2
      have m1 : (⟨g.at_, f.by_, askN i k, k1⟩ : F) ∈ m := by
        refine hc _ (ins_in (r := askR i r k y L) (hR _ (List.mem_cons_self ..)) hby (ha g (hs g hg)) g1 g2 (by rw [head_ask hn0]; exact ask) fun t ht hv => ho t.v ?_)
        rcases ht with ht | rfl
        · obtain ⟨v, hu, rfl⟩ := List.mem_map.1 ht
          exact hu
        · have := hf.at_ k hkl (by rw [← hy]; exact hv)
          rw [← hy] at this; exact this
      have m2 : (⟨f.by_, g.at_, tellN i k, k2⟩ : F) ∈ m := by
        refine hc _ (ins_in (r := tellR i r k y) (fs := [⟨g.at_, f.by_, askN i k, k1⟩, g]) (d := d) (hR _ (List.mem_cons_of_mem _ (List.mem_cons_self ..))) (by rw [hw]; exact ha g (hs g hg)) (by rw [← hw]; exact hby) (fun x hx => ?_) ?_ (by rw [head_tell hf.home]; exact tell) fun t ht hv => ?_)
        · rcases List.mem_cons.1 hx with rfl | hx
          · exact m1
          · rw [List.mem_singleton] at hx; rw [hx]; exact hs g hg
        · show body y.at_ d ([askL i r k] ++ [noAt y]) = _
          refine body_app.2 ⟨[_], [g], rfl, body_one.2 ⟨_, rfl, by rw [lit_ask hf.home]; exact ask⟩, body_one.2 ⟨g, rfl, by rw [noAt_there hn0 (r := r)]; exact hgy⟩⟩
        · rcases ht with ht | rfl
          · obtain ⟨v, hu, rfl⟩ := List.mem_map.1 ht
            rw [hbs] at hu
            rcases Mt.mem_wl hu with hv | hv | ⟨t, ht, hv⟩ | hv
            · exact .inr ⟨askL i r k, List.mem_cons_self .., .inr (.inl ⟨⟨v, k0⟩, List.mem_map.2 ⟨v, hv, rfl⟩, rfl⟩)⟩
            · exact .inr ⟨noAt y, List.mem_cons_of_mem _ (List.mem_cons_self ..), .inl hv⟩
            · exact .inr ⟨noAt y, List.mem_cons_of_mem _ (List.mem_cons_self ..), .inr (.inl ⟨t, ht, hv⟩)⟩
            · exact .inl hv
          · exact .inr ⟨askL i r k, List.mem_cons_self .., .inl rfl⟩
      refine steps_in hf hw hc ha hs hb hh hby hat ys (k + 1) _ hys.symm (fun r' hr' => hR r' (List.mem_cons_of_mem _ (List.mem_cons_of_mem _ hr'))) ⟨[_], fun x hx => ?_, body_one.2 ⟨_, rfl, by rw [lit_tell hn0]; exact tell⟩⟩ fun v hv => .inr ⟨tellL i r k y, List.mem_cons_self .., .inr (.inl ⟨⟨v, k0⟩, List.mem_map.2 ⟨v, hv, rfl⟩, rfl⟩)⟩
      rw [List.mem_singleton] at hx; rw [hx]; exact m2
    · rename_i hrem
      refine steps_in hf hw hc ha hs hb hh hby hat ys (k + 1) _ hys.symm hR ⟨gs ++ [g], fun x hx => ?_, body_app.2 ⟨gs, [g], rfl, g2, body_one.2 ⟨g, rfl, by rw [noAt_same hrem]; exact hgy⟩⟩⟩ fun v hv => ?_
      · rcases List.mem_append.1 hx with hx | hx
        · exact g1 x hx
        · rw [List.mem_singleton] at hx; rw [hx]; exact hs g hg
      · have hne := bnd_ne r (k + 1) v hv
        rw [hbs] at hv
        have hin : noAt y ∈ (lastR r (L ++ [noAt y])).body := List.mem_append_right _ (List.mem_singleton.2 rfl)
        rcases Mt.mem_wl hv with hv | hv | ⟨t, ht, hv⟩ | hv
        · rcases ho v hv with h | ⟨z, hz, h⟩
          · exact .inl h
          · exact .inr ⟨z, List.mem_append_left _ hz, h⟩
        · exact .inr ⟨noAt y, hin, .inl hv⟩
        · exact .inr ⟨noAt y, hin, .inr (.inl ⟨t, ht, hv⟩)⟩
        · rcases rem_no hrem with he | he
          · exact absurd (by rw [hv, he]; rfl) hne
          · exact .inl (by rw [hv, he]; rfl)
theorem rw_sup {w : Ml.Wd} {l : List Ru} {b n n' : List F} (hl : ∀ r ∈ l, Fine r) (hw : w.homes = w.names) (hb : ∀ x ∈ b, x.at_ ∈ w.names) (h : Ml.Lst w l (sortF b) (some n)) (h' : Ml.Lst w (rw 0 l) (sortF b) (some n')) : ∀ x ∈ n, x ∈ n' := by
  obtain ⟨_, i2, i3, _⟩ := h'.got (sortF_SS _)
  have ha : ∀ x ∈ n', x.at_ ∈ w.names := fun x hx => (Ml.names h' x hx).elim (hb x) (·.1)
  refine h.least (sortF_SS _) i2 fun f hf => ?_
  obtain ⟨r, hr, hby, hat, d, fs, hs, hd, hh⟩ := ins_out hf
  obtain ⟨j, hj, rfl⟩ := List.getElem_of_mem hr
  refine steps_in (i := j) (hl _ hr) hw i3 ha hs hd hh hby hat l[j].body 0 [] rfl (fun r' hr' => mem_rw.2 ⟨j, l[j], List.getElem?_eq_getElem hj, by rw [Nat.zero_add]; exact hr'⟩) ⟨[], (fun _ h => by cases h), rfl⟩ fun v hv => ?_
  rcases Mt.mem_wv (show v ∈ wv [] l[j].home from hv) with h | h
  · cases h
  · exact .inl h
/-- THE STAGE'S THEOREM: rewritten rules mean the same -/
theorem same {w : Ml.Wd} {l : List Ru} {b n n' : List F} (hl : ∀ r ∈ l, Fine r) (hw : w.homes = w.names) (hb : ∀ x ∈ b, relay x.pred = false ∧ x.at_ ∈ w.names) (h : Ml.Lst w l (sortF b) (some n)) (h' : Ml.Lst w (rw 0 l) (sortF b) (some n')) : seen n' = n := by
  have h1 := rw_sub hl (fun x hx => (hb x hx).1) h h'
  have h2 := rw_sup hl hw (fun x hx => (hb x hx).2) h h'
  obtain ⟨s1, _, _, _⟩ := h.got (sortF_SS _)
  obtain ⟨s2, _, _, _⟩ := h'.got (sortF_SS _)
  have hr : ∀ x ∈ n, relay x.pred = false := by
    refine h.pred (sortF_SS _) (fun x hx => (hb x ((mem_sortF _ _).1 hx)).1) fun m' hm' f hf => ?_
    obtain ⟨r, hr, _, _, d, fs, _, _, hh⟩ := ins_out hf
    rw [(Mt.fact_parts (show fact (place r.home r.to_) r.home r.pred r.args d = some f from hh)).2.2.1]
    exact (hl r hr).pred
  have s3 : SS (seen n') := List.Pairwise.filter _ s2
  refine s3.uniq s1 fun x => ?_
  unfold seen
  rw [List.mem_filter]
  constructor
  · rintro ⟨hx, hp⟩
    exact (h1 x hx).plain (by simpa using hp)
  · intro hx
    exact ⟨h2 x hx, by rw [hr x hx]; rfl⟩
end Lc
end Go.Proofs.YtpdmmmdkpipmkaaGreatDoor

/-
  The mathematics of layer 13: what rewritten rules look like: no places, as many rules as told, relays' names each once. No program in this text.
-/
namespace Go.Proofs.YtpdmmmdkpipmkaaGreatDoor
namespace Lc
open Mt (Tx)
open Ck (bnd)

/-! no literal has a place -/
theorem steps_at {i : Nat} {r : Ru} : ∀ (ys : List Lt) (k : Nat) (L : List Lt), (∀ y ∈ L, y.at_ = t0) → ∀ r' ∈ steps i r k ys L, ∀ y ∈ r'.body, y.at_ = t0
  | [], k, L, hL, r', hr', y, hy => by
    rw [steps, List.mem_singleton] at hr'
    subst hr'
    exact hL y hy
  | z :: ys, k, L, hL, r', hr', y, hy => by
    rw [steps] at hr'
    split at hr'
    · rcases List.mem_cons.1 hr' with rfl | hr'
      · exact hL y hy
      · rcases List.mem_cons.1 hr' with rfl | hr'
        · rcases List.mem_cons.1 hy with rfl | hy
          · rfl
          · rw [List.mem_singleton.1 hy]; rfl
        · exact steps_at ys (k + 1) _ (fun u hu => by rw [List.mem_singleton.1 hu]; rfl) r' hr' y hy
    · refine steps_at ys (k + 1) _ (fun u hu => ?_) r' hr' y hy
      rcases List.mem_append.1 hu with hu | hu
      · exact hL u hu
      · rw [List.mem_singleton.1 hu]; rfl
theorem rw_at {l : List Ru} {i : Nat} : ∀ r' ∈ rw i l, ∀ y ∈ r'.body, y.at_ = t0 := fun r' hr' => by
  obtain ⟨j, r, _, h⟩ := mem_rw.1 hr'
  exact steps_at _ _ _ (fun _ h => by cases h) r' h

/-! how many; the last one -/
def cnt (r : Ru) (ys : List Lt) : Nat := (ys.filter (rem r)).length
theorem steps_len {i : Nat} {r : Ru} : ∀ (ys : List Lt) (k : Nat) (L : List Lt), (steps i r k ys L).length = 2 * cnt r ys + 1 ∧ ∃ L', (steps i r k ys L)[2 * cnt r ys]? = some (lastR r L')
  | [], k, L => ⟨rfl, L, rfl⟩
  | y :: ys, k, L => by
    rw [steps]
    unfold cnt
    split
    · rename_i h
      rw [List.filter_cons_of_pos h]
      obtain ⟨h1, L', h2⟩ := steps_len (i := i) (r := r) ys (k + 1) [tellL i r k y]
      unfold cnt at h1 h2
      refine ⟨by rw [List.length_cons, List.length_cons, h1, List.length_cons]; omega, L', ?_⟩
      rw [List.length_cons, show 2 * ((ys.filter (rem r)).length + 1) = 2 * (ys.filter (rem r)).length + 1 + 1 by omega, List.getElem?_cons_succ, List.getElem?_cons_succ]
      exact h2
    · rename_i h
      rw [List.filter_cons_of_neg h]
      exact steps_len ys (k + 1) _
theorem one_len (i : Nat) (r : Ru) : (one i r).length = 2 * cnt r r.body + 1 := (steps_len r.body 0 []).1
theorem one_last (i : Nat) (r : Ru) : ∃ L, (one i r)[2 * cnt r r.body]? = some (lastR r L) := (steps_len r.body 0 []).2
/-- where the first j rules' end -/
def ends (l : List Ru) (j : Nat) : Nat := ((l.take j).map fun r => 2 * cnt r r.body + 1).sum
theorem ends_zero (l : List Ru) : ends l 0 = 0 := rfl
theorem ends_succ {l : List Ru} {j : Nat} (h : j < l.length) : ends l (j + 1) = ends l j + (2 * cnt l[j] l[j].body + 1) := by
  unfold ends
  rw [List.take_succ_eq_append_getElem h, List.map_append, List.sum_append]
  simp
theorem rw_cut : ∀ {l : List Ru} {i j : Nat}, j ≤ l.length → ∃ a b, rw i l = a ++ b ∧ a.length = ends l j ∧ b = rw (i + j) (l.drop j)
  | l, i, 0, _ => ⟨[], rw i l, rfl, rfl, by simp⟩
  | [], i, j + 1, h => by simp at h
  | r :: l, i, j + 1, h => by
    obtain ⟨a, b, h1, h2, h3⟩ := rw_cut (l := l) (i := i + 1) (j := j) (by simpa using h)
    refine ⟨one i r ++ a, b, by rw [rw, h1, List.append_assoc], ?_, ?_⟩
    · rw [List.length_append, one_len, h2]
      unfold ends
      simp
    · rw [h3, List.drop_succ_cons, show i + 1 + j = i + (j + 1) by omega]
theorem rw_len {l : List Ru} {i : Nat} : (rw i l).length = ends l l.length := by
  obtain ⟨a, b, h1, h2, h3⟩ := rw_cut (l := l) (i := i) (j := l.length) (Nat.le_refl _)
  rw [List.drop_length] at h3
  rw [h1, h3, ← h2]
  simp [rw]
/-- the last of a rule's has its head -/
theorem rw_last {l : List Ru} {i j : Nat} (h : j < l.length) : ∃ L, (rw i l)[ends l (j + 1) - 1]? = some (lastR l[j] L) := by
  obtain ⟨a, b, h1, h2, h3⟩ := rw_cut (l := l) (i := i) (j := j) (by omega)
  rw [List.drop_eq_getElem_cons h, rw] at h3
  obtain ⟨L, hL⟩ := one_last (i + j) l[j]
  refine ⟨L, ?_⟩
  rw [h1, ends_succ h, h3, List.getElem?_append_right (by omega), h2, show ends l j + (2 * cnt l[j] l[j].body + 1) - 1 - ends l j = 2 * cnt l[j] l[j].body by omega, List.getElem?_append_left (by rw [one_len]; omega)]
  exact hL
theorem ends_le {l : List Ru} {i j : Nat} (h : j ≤ l.length) : ends l j ≤ (rw i l).length := by
  obtain ⟨a, b, h1, h2, h3⟩ := rw_cut (l := l) (i := i) (j := j) h
  rw [h1, List.length_append]; omega

/-! relays' names -/
/-- a rule's name is no relay, or a relay's of a rule's number from i on and, of that rule, of a literal's from k on -/
def Nm (i k : Nat) (p : Tx) : Prop := relay p = false ∨ ∃ a b, (p = askN a b ∨ p = tellN a b) ∧ (i < a ∨ (i = a ∧ k ≤ b))
def Ap (a b : Ru) : Prop := relay a.pred = true ∨ relay b.pred = true → a.pred ≠ b.pred
theorem Ap.of {a b : Ru} {i k : Nat} (ha : a.pred = askN i k ∨ a.pred = tellN i k) (h : Nm i (k + 1) b.pred) : Ap a b := fun _ he => by
  rcases h with h | ⟨x, y, h, hl⟩
  · rw [← he] at h
    rcases ha with ha | ha
    · rw [ha, relay_ask] at h; cases h
    · rw [ha, relay_tell] at h; cases h
  · rw [← he] at h
    rcases ha with ha | ha <;> rw [ha] at h <;> rcases h with h | h
    · obtain ⟨rfl, rfl⟩ := askN_inj h; omega
    · exact ask_tell h
    · exact ask_tell h.symm
    · obtain ⟨rfl, rfl⟩ := tellN_inj h; omega
theorem Nm.mono {i k i' k' : Nat} {p : Tx} (h : Nm i k p) (hl : i' < i ∨ (i' = i ∧ k' ≤ k)) : Nm i' k' p := by
  rcases h with h | ⟨x, y, h, hx⟩
  · exact .inl h
  · exact .inr ⟨x, y, h, by omega⟩
theorem steps_nm {i : Nat} {r : Ru} (hr : relay r.pred = false) : ∀ (ys : List Lt) (k : Nat) (L : List Lt), (∀ r' ∈ steps i r k ys L, Nm i k r'.pred ∧ Nm i k r'.pred) ∧ (steps i r k ys L).Pairwise Ap
  | [], k, L => by
    rw [steps]
    exact ⟨fun r' h => by rw [List.mem_singleton.1 h]; exact ⟨.inl hr, .inl hr⟩, List.pairwise_singleton _ _⟩
  | y :: ys, k, L => by
    rw [steps]
    split
    · obtain ⟨h1, h2⟩ := steps_nm (i := i) hr ys (k + 1) [tellL i r k y]
      have ht : ∀ r' ∈ steps i r (k + 1) ys [tellL i r k y], Ap (tellR i r k y) r' := fun r' h => Ap.of (.inr rfl) (h1 r' h).1
      have ha : ∀ r' ∈ steps i r (k + 1) ys [tellL i r k y], Ap (askR i r k y L) r' := fun r' h => Ap.of (.inl rfl) (h1 r' h).1
      refine ⟨fun r' h => ?_, List.Pairwise.cons (fun r' h => ?_) (List.Pairwise.cons ht h2)⟩
      · have key : Nm i k r'.pred := by
          rcases List.mem_cons.1 h with rfl | h
          · exact .inr ⟨i, k, .inl rfl, by omega⟩
          · rcases List.mem_cons.1 h with rfl | h
            · exact .inr ⟨i, k, .inr rfl, by omega⟩
            · exact (h1 r' h).1.mono (by omega)
        exact ⟨key, key⟩
      · rcases List.mem_cons.1 h with rfl | h
        · exact fun _ => ask_tell
        · exact ha r' h
    · obtain ⟨h1, h2⟩ := steps_nm (i := i) hr ys (k + 1) (L ++ [noAt y])
      exact ⟨fun r' h => ⟨(h1 r' h).1.mono (by omega), (h1 r' h).1.mono (by omega)⟩, h2⟩
/-- those of one rule against those of later ones -/
theorem steps_low {i : Nat} {r : Ru} (hr : relay r.pred = false) : ∀ (ys : List Lt) (k : Nat) (L : List Lt), ∀ r' ∈ steps i r k ys L, relay r'.pred = false ∨ ∃ b, r'.pred = askN i b ∨ r'.pred = tellN i b
  | [], k, L, r', h => by
    rw [steps] at h
    rw [List.mem_singleton.1 h]
    exact .inl hr
  | y :: ys, k, L, r', h => by
    rw [steps] at h
    split at h
    · rcases List.mem_cons.1 h with rfl | h
      · exact .inr ⟨k, .inl rfl⟩
      · rcases List.mem_cons.1 h with rfl | h
        · exact .inr ⟨k, .inr rfl⟩
        · exact steps_low hr ys (k + 1) _ r' h
    · exact steps_low hr ys (k + 1) _ r' h
theorem rw_nm : ∀ {l : List Ru} {i : Nat}, (∀ r ∈ l, relay r.pred = false) → (∀ r' ∈ rw i l, Nm i 0 r'.pred) ∧ (rw i l).Pairwise Ap
  | [], i, _ => ⟨fun r' h => (by cases h), List.Pairwise.nil⟩
  | r :: l, i, hl => by
    have hr := hl r (List.mem_cons_self ..)
    obtain ⟨h1, h2⟩ := steps_nm (i := i) hr r.body 0 []
    obtain ⟨h3, h4⟩ := rw_nm (l := l) (i := i + 1) fun u hu => hl u (List.mem_cons_of_mem _ hu)
    rw [rw]
    refine ⟨fun r' h => ?_, List.pairwise_append.2 ⟨h2, h4, fun a ha b hb => ?_⟩⟩
    · rcases List.mem_append.1 h with h | h
      · exact (h1 r' h).1
      · exact (h3 r' h).mono (by omega)
    · have hn := h3 b hb
      rcases steps_low hr r.body 0 [] a ha with h | ⟨q, h⟩
      · intro hor he
        rcases hor with hor | hor
        · rw [h] at hor; cases hor
        · rw [← he, h] at hor; cases hor
      · exact Ap.of h (hn.mono (by omega))
/-- two rules of what comes, one of them a relay's: unlike names -/
theorem rw_fresh {l : List Ru} (hl : ∀ r ∈ l, relay r.pred = false) {p q : Nat} {a b : Ru} (ha : (rw 0 l)[p]? = some a) (hb : (rw 0 l)[q]? = some b) (hpq : p ≠ q) (hr : relay a.pred = true) : a.pred ≠ b.pred := by
  have h := (rw_nm (i := 0) hl).2
  obtain ⟨h1, rfl⟩ := List.getElem?_eq_some_iff.1 ha
  obtain ⟨h2, rfl⟩ := List.getElem?_eq_some_iff.1 hb
  rw [List.pairwise_iff_getElem] at h
  rcases Nat.lt_or_ge p q with hlt | hge
  · exact h p q h1 h2 hlt (.inl hr)
  · exact fun he => h q p h2 h1 (by omega) (.inr hr) he.symm
/-- each relay goes to somebody -/
theorem steps_to {i : Nat} {r : Ru} (hf : Fine r) : ∀ (ys : List Lt) (k : Nat) (L : List Lt), ∀ r' ∈ steps i r k ys L, relay r'.pred = true → r'.to_ ≠ t0
  | [], k, L, r', h, hr => by
    rw [steps] at h
    rw [List.mem_singleton.1 h] at hr
    have := hf.pred
    rw [show relay r.pred = true from hr] at this
    cases this
  | y :: ys, k, L, r', h, hr => by
    rw [steps] at h
    split at h
    · rename_i hrem
      rcases List.mem_cons.1 h with rfl | h
      · exact (rem_yes hrem).1
      · rcases List.mem_cons.1 h with rfl | h
        · exact hf.home
        · exact steps_to hf ys (k + 1) _ r' h hr
    · exact steps_to hf ys (k + 1) _ r' h hr
theorem rw_to {l : List Ru} (hl : ∀ r ∈ l, Fine r) : ∀ r' ∈ rw 0 l, relay r'.pred = true → r'.to_ ≠ t0 := fun r' hr' => by
  obtain ⟨j, r, hj, h⟩ := mem_rw.1 hr'
  exact steps_to (hl r (List.mem_of_getElem? hj)) _ _ _ r' h

/-! programs without places -/
def plainR (r : Ru) : Ru := ⟨r.home, r.pred, r.args, r.to_, r.body.map noAt⟩
theorem steps_plain {i : Nat} {r : Ru} : ∀ (ys : List Lt) (k : Nat) (L : List Lt), (∀ y ∈ ys, y.at_ = t0) → steps i r k ys L = [lastR r (L ++ ys)]
  | [], k, L, _ => by rw [steps, List.append_nil]
  | y :: ys, k, L, h => by
    have hy := h y (List.mem_cons_self ..)
    have hn : ¬ rem r y = true := fun hh => (rem_yes hh).1 hy
    have he : noAt y = y := by
      obtain ⟨a, b, c, d⟩ := y
      simp only at hy
      subst hy; rfl
    rw [steps, if_neg hn, he, steps_plain ys (k + 1) (L ++ [y]) fun u hu => h u (List.mem_cons_of_mem _ hu), List.append_assoc]; rfl
theorem one_plain {i : Nat} {r : Ru} (h : ∀ y ∈ r.body, y.at_ = t0) : one i r = [r] := by
  unfold one
  rw [steps_plain r.body 0 [] h]; rfl
theorem rw_plain : ∀ {l : List Ru} {i : Nat}, (∀ r ∈ l, ∀ y ∈ r.body, y.at_ = t0) → rw i l = l
  | [], i, _ => rfl
  | r :: l, i, h => by
    rw [rw, one_plain (h r (List.mem_cons_self ..)), rw_plain fun u hu => h u (List.mem_cons_of_mem _ hu)]; rfl
end Lc
end Go.Proofs.YtpdmmmdkpipmkaaGreatDoor

/-
  Rules that may be run are as layer 13's mathematics wants them. No program in this text.
-/
namespace Go.Proofs.YtpdmmmdkpipmkaaGreatDoor
namespace Lc
open Mt (Tx)
open Ck (bnd vars Well)

theorem word_relay {p : Tx} (h : Sh.wordB p = true) : relay p = false := by
  unfold Sh.wordB Sh.namedB at h
  cases p with
  | nil => rfl
  | cons c r =>
    simp only [Bool.and_eq_true, Lx.small, decide_eq_true_eq] at h
    have h1 := h.1.1.2
    unfold relay
    simp only [beq_eq_false_iff_ne, ne_eq]
    rintro rfl
    have : (126 : UInt8).toNat = 126 := rfl
    omega
theorem atom_word {p : Tx} {ts : List Tm} (h : (Sh.atomS p ts).isSome = true) : Sh.wordB p = true := by
  unfold Sh.atomS at h
  split at h
  · rename_i hp; exact hp.1
  · cases h
theorem lit_word {y : Lt} (h : (Sh.litS y).isSome = true) : Sh.wordB y.pred = true := by
  unfold Sh.litS at h
  obtain ⟨s, hs⟩ := Option.isSome_iff_exists.1 h
  obtain ⟨b, _, hs⟩ := Option.bind_eq_some_iff.1 hs
  obtain ⟨x, hx, _⟩ := Option.bind_eq_some_iff.1 hs
  exact atom_word (by rw [hx]; rfl)
theorem lits_word : ∀ {l : List Lt}, (Sh.litsS l).isSome = true → ∀ y ∈ l, (Sh.litS y).isSome = true
  | [], _, y, h => by cases h
  | [a], h, y, hy => by
    rw [List.mem_singleton] at hy; subst hy
    exact h
  | a :: u :: r, h, y, hy => by
    rw [Sh.litsS] at h
    obtain ⟨s, hs⟩ := Option.isSome_iff_exists.1 h
    obtain ⟨b, hb, hs⟩ := Option.bind_eq_some_iff.1 hs
    rcases List.mem_cons.1 hy with rfl | hy
    · rw [hb]; rfl
    · refine lits_word (l := u :: r) ?_ y hy
      cases hx : Sh.litsS (u :: r) with
      | none => rw [hx] at hs; cases hs
      | some _ => rfl
theorem term_t0 : Sh.termS t0 = none := by
  unfold Sh.termS
  rw [if_neg (by simp [t0]), if_neg (by simp [t0, k0]), if_neg (by simp [t0, k0, Sh.plainB])]
theorem well_fine {r : Ru} (h : Well r) : Fine r := by
  have hs := h.shape
  unfold Sh.ruleS at hs
  split at hs
  · obtain ⟨s, hs⟩ := Option.isSome_iff_exists.1 hs
    obtain ⟨a, ha, hs⟩ := Option.bind_eq_some_iff.1 hs
    obtain ⟨b, hb, hs⟩ := Option.bind_eq_some_iff.1 hs
    obtain ⟨c, _, hs⟩ := Option.bind_eq_some_iff.1 hs
    obtain ⟨d, hd, _⟩ := Option.map_eq_some_iff.1 hs
    refine ⟨fun he => ?_, word_relay (atom_word (by rw [hb]; rfl)), fun y hy => word_relay (lit_word (lits_word (by rw [hd]; rfl) y hy)), fun k hk hv => Ck.well_at h hk hv, fun t ht hv => ?_⟩
    · rw [he, term_t0] at ha; cases ha
    · rcases ht with ht | rfl
      · exact Ck.well_arg h ht hv
      · have := h.opn
        unfold Ck.opn at this
        rw [Bool.or_eq_false_iff] at this
        have h1 := this.1
        unfold Ck.outV at h1
        simp only [Bool.and_eq_false_iff, Bool.not_eq_false'] at h1
        rcases h1 with h1 | h1
        · exact absurd (by simpa using h1) hv
        · simpa using h1
  · cases hs

/-! the same rules without places -/
theorem lit_noAt {y : Lt} (h : (Sh.litS y).isSome = true) : (Sh.litS (noAt y)).isSome = true := by
  unfold Sh.litS at h
  obtain ⟨s, hs⟩ := Option.isSome_iff_exists.1 h
  obtain ⟨b, hb, hs⟩ := Option.bind_eq_some_iff.1 hs
  obtain ⟨x, hx, _⟩ := Option.bind_eq_some_iff.1 hs
  have h0 : Sh.maybeS [32, 97, 116, 32] t0 [] = some [] := rfl
  unfold Sh.litS noAt
  simp only [hb, hx, h0, Option.bind_some, Option.map_some, Option.isSome_some]
theorem word_lits : ∀ {l : List Lt}, (∀ y ∈ l, (Sh.litS y).isSome = true) → (Sh.litsS l).isSome = true
  | [], _ => rfl
  | [a], h => h a (List.mem_cons_self ..)
  | a :: u :: r, h => by
    obtain ⟨s, hs⟩ := Option.isSome_iff_exists.1 (h a (List.mem_cons_self ..))
    obtain ⟨x, hx⟩ := Option.isSome_iff_exists.1 (word_lits (l := u :: r) fun y hy => h y (List.mem_cons_of_mem _ hy))
    rw [Sh.litsS, hs, hx]; rfl
theorem none_first {f : Nat → Lt → Bool} : ∀ {i : Nat} {l : List Lt}, (∀ k (h : k < l.length), f (i + k) l[k] = false) → Ck.first f i l = none
  | i, [], _ => rfl
  | i, y :: r, h => by
    have h0 : f i y = false := h 0 (by simp)
    rw [Ck.first, if_neg (by rw [h0]; decide)]
    refine none_first fun k hk => ?_
    have := h (k + 1) (by simpa using hk)
    rw [show i + 1 + k = i + (k + 1) by omega]
    simpa using this
theorem plain_get {r : Ru} {k : Nat} (hp : k < (plainR r).body.length) (hk : k < r.body.length) : (plainR r).body[k] = noAt r.body[k] := List.getElem_map ..
theorem plain_bnd {r : Ru} (h : Fine r) : ∀ (k : Nat), k ≤ r.body.length → ∀ v ∈ bnd r k, v ∈ bnd (plainR r) k
  | 0, _, v, hv => by
    unfold bnd at hv ⊢
    rw [List.take_zero] at hv ⊢
    exact hv
  | k + 1, hk, v, hv => by
    have hk' : k < r.body.length := by omega
    have hp : k < (plainR r).body.length := by show k < (r.body.map noAt).length; rw [List.length_map]; exact hk'
    have hne := bnd_ne r (k + 1) v hv
    have ih := plain_bnd h k (by omega)
    rw [Ck.bnd_succ hk'] at hv
    rw [Ck.bnd_succ hp]
    have e := plain_get hp hk'
    rw [e]
    have hin := in_wl (bnd (plainR r) k) (noAt r.body[k])
    rcases Mt.mem_wl hv with hv | rfl | ⟨t, ht, rfl⟩ | rfl
    · exact wl_sub (ih v hv)
    · exact hin.1.resolve_left hne
    · exact (hin.2.1 t ht).resolve_left hne
    · exact wl_sub (ih _ (h.at_ k hk' hne))
theorem plain_vars {r : Ru} (h : Fine r) : ∀ v ∈ vars r, v ∈ vars (plainR r) := fun v hv => by
  have := plain_bnd h r.body.length (Nat.le_refl _) v hv
  have e : (plainR r).body.length = r.body.length := by show (r.body.map noAt).length = _; rw [List.length_map]
  unfold vars
  rw [e]; exact this
theorem well_plain {r : Ru} (h : Well r) : Well (plainR r) := by
  have hf := well_fine h
  have hs := h.shape
  refine ⟨?_, ?_, ?_, ?_⟩
  · unfold Sh.ruleS at hs ⊢
    split at hs
    · rename_i hl
      obtain ⟨s, hs⟩ := Option.isSome_iff_exists.1 hs
      obtain ⟨a, ha, hs⟩ := Option.bind_eq_some_iff.1 hs
      obtain ⟨b, hb, hs⟩ := Option.bind_eq_some_iff.1 hs
      obtain ⟨c, hc, hs⟩ := Option.bind_eq_some_iff.1 hs
      obtain ⟨d, hd, _⟩ := Option.map_eq_some_iff.1 hs
      have hw : ∀ y ∈ r.body, (Sh.litS y).isSome = true := lits_word (by rw [hd]; rfl)
      obtain ⟨x, hx⟩ := Option.isSome_iff_exists.1 (word_lits (l := r.body.map noAt) fun y hy => by
        obtain ⟨z, hz, rfl⟩ := List.mem_map.1 hy
        exact lit_noAt (hw z hz))
      unfold plainR
      simp only [List.length_map]
      rw [if_pos hl]
      simp only [ha, hb, hc, hx, Option.bind_some, Option.map_some, Option.isSome_some]
    · cases hs
  · have hp := h.places
    unfold Ck.places at hp ⊢
    split at hp
    · cases hp
    · rename_i h0
      have h0' : ¬ (Ck.num (plainR r).home || Ck.num (plainR r).to_) = true := h0
      rw [if_neg h0']
      refine none_first fun k hk => ?_
      have hk' : k < r.body.length := by
        have : (r.body.map noAt).length = r.body.length := List.length_map ..
        have h2 : k < (r.body.map noAt).length := hk
        omega
      have := Ck.first_none hp k hk'
      rw [Bool.or_eq_false_iff] at this
      have e := plain_get hk hk'
      rw [e, Bool.or_eq_false_iff]
      exact ⟨this.1, rfl⟩
  · unfold Ck.free
    refine none_first fun k hk => ?_
    have hk' : k < r.body.length := by
      have : (r.body.map noAt).length = r.body.length := List.length_map ..
      have h2 : k < (r.body.map noAt).length := hk
      omega
    have e := plain_get hk hk'
    rw [e]; rfl
  · have key : ∀ t, (t ∈ r.args ∨ t = r.to_) → Ck.outV (vars (plainR r)) t = false := fun t ht => by
      unfold Ck.outV
      by_cases hv : t.v = []
      · rw [hv]; rfl
      · have := plain_vars hf _ (hf.args t ht hv)
        rw [Bool.and_eq_false_iff]
        exact .inr (by simpa using this)
    unfold Ck.opn
    rw [Bool.or_eq_false_iff, List.any_eq_false]
    exact ⟨key r.to_ (.inr rfl), fun t ht => by rw [key t (.inl ht)]; decide⟩
theorem pairs_plain (r : Ru) : Ck.pairs (plainR r) = Ck.pairs r := by
  unfold Ck.pairs Ck.pairsL plainR
  simp only [List.map_map]
  rfl
theorem prog_plain {l : List Ru} (h : (Ck.prog l).1 = 0) : Ck.prog (l.map plainR) = (0, -1, -1) := by
  obtain ⟨h1, h2, L, h3, h4⟩ := Ck.prog_ok h
  unfold Ck.prog
  rw [if_neg (by rw [List.length_map]; omega)]
  refine Ck.go_fits h3 (fun r hr => ?_) fun r hr => ?_
  · obtain ⟨q, hq, rfl⟩ := List.mem_map.1 hr
    exact well_plain (h2 q hq)
  · obtain ⟨q, hq, rfl⟩ := List.mem_map.1 hr
    rw [pairs_plain]
    exact h4 q hq
theorem prog_fine {l : List Ru} (h : (Ck.prog l).1 = 0) : ∀ r ∈ l, Fine r := fun r hr => well_fine ((Ck.prog_ok h).2.1 r hr)
/-- rewritten, a program without places is as it was -/
theorem rw_plained (l : List Ru) : rw 0 (l.map plainR) = l.map plainR := rw_plain fun r hr y hy => by
  obtain ⟨q, _, rfl⟩ := List.mem_map.1 hr
  obtain ⟨z, _, rfl⟩ := List.mem_map.1 hy
  rfl
end Lc
end Go.Proofs.YtpdmmmdkpipmkaaGreatDoor

/-
  The example of chapter 13, by the mathematics: its text is a rule that may be run, and what that becomes. No program in this text.
-/
namespace Go.Proofs.YtpdmmmdkpipmkaaGreatDoor
namespace Lc

abbrev lx13 : List UInt8 := [65, 58, 32, 112, 40, 88, 41, 32, 58, 45, 32, 113, 40, 66, 41, 44, 32, 114, 40, 88, 41, 32, 97, 116, 32, 66, 46]
def ex13 : Ru := ⟨⟨[65], k0⟩, [112], [⟨[88], k0⟩], t0, [⟨t0, [113], [⟨[66], k0⟩], t0⟩, ⟨t0, [114], [⟨[88], k0⟩], ⟨[66], k0⟩⟩]⟩
set_option maxRecDepth 100000 in
theorem px13 : Ps.prog lx13 = .ok [ex13] := by kernel_rfl
set_option maxRecDepth 100000 in
theorem ck13 : Ck.prog [ex13] = (0, -1, -1) := by kernel_rfl
def ask13 : Ru := ⟨⟨[65], k0⟩, [126, 97, 115, 107, 48, 46, 49], [⟨[65], k0⟩, ⟨[66], k0⟩], ⟨[66], k0⟩, [⟨t0, [113], [⟨[66], k0⟩], t0⟩]⟩
def tell13 : Ru := ⟨⟨[66], k0⟩, [126, 116, 101, 108, 108, 48, 46, 49], [⟨[65], k0⟩, ⟨[66], k0⟩, ⟨[88], k0⟩], ⟨[65], k0⟩, [⟨⟨[65], k0⟩, [126, 97, 115, 107, 48, 46, 49], [⟨[65], k0⟩, ⟨[66], k0⟩], t0⟩, ⟨t0, [114], [⟨[88], k0⟩], t0⟩]⟩
def last13 : Ru := ⟨⟨[65], k0⟩, [112], [⟨[88], k0⟩], t0, [⟨⟨[66], k0⟩, [126, 116, 101, 108, 108, 48, 46, 49], [⟨[65], k0⟩, ⟨[66], k0⟩, ⟨[88], k0⟩], t0⟩]⟩
set_option maxRecDepth 100000 in
theorem rw13 : rw 0 [ex13] = [ask13, tell13, last13] := by kernel_rfl
end Lc
end Go.Proofs.YtpdmmmdkpipmkaaGreatDoor
