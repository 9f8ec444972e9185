/-
  The mathematics of layer 12, as the program goes: a walk in which only what is asked later is kept, and of facts that differ in what nobody else asks one alone, comes to the same heads, and not to more ends. No program in this text.
-/
import Derived.Lib.ItoaMem
import Derived.Lib.ItoaLen
import Derived.Test.YtpdmmmdkpipmkaaGreatDoorQNd
namespace Go.Proofs.YtpdmmmdkpipmkaaGreatDoor
namespace Ml
open Mt (Tx Env uni unis by1 lit lits head nm val nul place vals name fact eqK eqK_iff)

/-- by which literals a variable is asked, from the first to the last; the head and the home ask behind the last -/
structure Spn (r : Ru) (fs la : Tx → Nat) : Prop where
  lit : ∀ (k : Nat) (l : Lt), r.body[k]? = some l → ∀ v ∈ lvars l, fs v ≤ k ∧ k ≤ la v
  head : ∀ v ∈ hvars r, r.body.length ≤ la v
theorem Spn.home {r : Ru} {fs la : Tx → Nat} (h : Spn r fs la) : r.body.length ≤ la r.home.v := h.head _ (by simp [hvars])
/-- asked behind literal k -/
def kept (la : Tx → Nat) (k : Nat) (b : Tx × K) : Bool := !decide (la b.1 ≤ k)
/-- asked by literal k alone -/
def own (fs la : Tx → Nat) (k : Nat) (b : Tx × K) : Bool := decide (fs b.1 = k) && decide (la b.1 = k)
def stp (home : Tm) (la : Tx → Nat) (k : Nat) (l : Lt) (f : F) (p : Env) : Option Env := (lit home l f p).map fun e => e.filter (kept la k)
/-- what is kept ahead of literal k -/
structure Pk (r : Ru) (fs la : Tx → Nat) (e0 : Env) (k : Nat) (p : Env) : Prop where
  nodup : (p.map (·.1)).Nodup
  sub : Sub e0 p
  old : ∀ v ∈ p.map (·.1), fs v < k ∨ r.body.length ≤ la v
/-- the bindings of the home alone -/
structure E0 (r : Ru) (e0 : Env) : Prop where
  nodup : (e0.map (·.1)).Nodup
  home : ∀ v ∈ e0.map (·.1), v = r.home.v
theorem E0.of {r : Ru} {c : K} {e0 : Env} (h : uni r.home c [] = some e0) : E0 r e0 := by
  obtain ⟨h1, h2⟩ := uni_nodup (e := []) (by simp) h
  exact ⟨h1, fun v hv => (h2 v hv).elim (fun h => by cases h) id⟩
theorem Pk.start {r : Ru} {fs la : Tx → Nat} {e0 : Env} (hs : Spn r fs la) (h : E0 r e0) : Pk r fs la e0 0 e0 :=
  ⟨h.nodup, fun _ _ h => h, fun v hv => .inr (by rw [h.home v hv]; exact hs.home)⟩
theorem get_vars {v : Tx} {c : K} {e : Env} (h : Mt.get v e = some c) : v ∈ e.map (·.1) := List.mem_map.2 ⟨_, get_mem h, rfl⟩
theorem lit_ext {home : Tm} {l : Lt} {f : F} {p p1 : Env} (h : lit home l f p = some p1) : ∃ m, p1 = p ++ m := (Mt.lit_has h).1
theorem Pk.step {r : Ru} {fs la : Tx → Nat} {e0 p p1 : Env} {k : Nat} {l : Lt} {f : F} (hs : Spn r fs la) (h0 : E0 r e0) (P : Pk r fs la e0 k p) (hk : r.body[k]? = some l) (h : lit r.home l f p = some p1) : Pk r fs la e0 (k + 1) (p1.filter (kept la k)) := by
  obtain ⟨hn, hv⟩ := lit_nodup P.nodup h
  have hkn : k < r.body.length := (List.getElem?_eq_some_iff.1 hk).1
  refine ⟨(List.Sublist.map _ List.filter_sublist).nodup hn, fun v c hg => ?_, fun v hw => ?_⟩
  · rw [get_filter (fun c' => ?_)]
    · obtain ⟨m, rfl⟩ := lit_ext h
      exact P.sub.ext m v c hg
    · have h1 := h0.home v (get_vars hg)
      have h2 := hs.home
      subst h1
      unfold kept
      simp only [Bool.not_eq_true', decide_eq_false_iff_not]
      omega
  · have hw' : v ∈ p1.map (·.1) := by
      obtain ⟨b, hb, rfl⟩ := List.mem_map.1 hw
      exact List.mem_map_of_mem (f := (·.1)) (List.mem_filter.1 hb).1
    rcases hv v hw' with h | h | h
    · rcases P.old v h with h | h
      · exact .inl (by omega)
      · exact .inr h
    · exact .inr (by rw [h]; exact hs.home)
    · exact .inl (by have := (hs.lit k l hk v h).1; omega)
/-- what is kept is what is bound, as far as it is asked from literal k on -/
def Sim (la : Tx → Nat) (k : Nat) (e p : Env) : Prop := ∀ v, k ≤ la v → Mt.get v p = Mt.get v e
theorem Sim.agree {r : Ru} {fs la : Tx → Nat} {e p : Env} {k : Nat} {l : Lt} (hs : Spn r fs la) (hk : r.body[k]? = some l) (h : Sim la k e p) : Agree (r.home.v :: lvars l) e p := fun v hv => by
  rcases List.mem_cons.1 hv with rfl | hv
  · exact h _ (by have := hs.home; have := (List.getElem?_eq_some_iff.1 hk).1; omega)
  · exact h _ (hs.lit k l hk v hv).2
theorem Sim.step {la : Tx → Nat} {e p : Env} {k : Nat} (h : Sim la k e p) (m : Env) : Sim la (k + 1) (e ++ m) ((p ++ m).filter (kept la k)) := fun v hv => by
  rw [get_filter (fun c => by unfold kept; simp only [Bool.not_eq_true', decide_eq_false_iff_not]; omega), get_app, get_app, h v (by omega)]
theorem filter_same {q : Tx → Bool} : ∀ {e p : Env}, e.map (·.1) = p.map (·.1) → (e.map (·.1)).Nodup → (∀ v, q v = true → Mt.get v e = Mt.get v p) → e.filter (fun b => q b.1) = p.filter (fun b => q b.1)
  | [], [], _, _, _ => rfl
  | [], b :: p, h, _, _ => by simp at h
  | b :: e, [], h, _, _ => by simp at h
  | (v, a) :: e, (u, b) :: p, h, hn, hg => by
    simp only [List.map_cons, List.cons.injEq] at h
    obtain ⟨rfl, h⟩ := h
    rw [List.map_cons, List.nodup_cons] at hn
    obtain ⟨hv, hn⟩ := hn
    have hv' : v ∉ p.map (·.1) := by rw [← h]; exact hv
    have ht : e.filter (fun b => q b.1) = p.filter (fun b => q b.1) := filter_same h hn fun u hu => by
      have := hg u hu
      unfold Mt.get at this
      rw [List.find?_cons, List.find?_cons] at this
      by_cases huv : v = u
      · subst huv
        rw [get_none.2 hv, get_none.2 hv']
      · simp only [show (v == u) = false by simpa using huv] at this
        exact this
    rw [List.filter_cons, List.filter_cons]
    simp only
    split
    · rename_i hq
      have := hg v hq
      unfold Mt.get at this
      rw [List.find?_cons, List.find?_cons] at this
      simp at this
      rw [ht, this]
    · exact ht
theorem val_pick {t : Tm} {c cf : K} {e1 e2 p1 e3 : Env} {fs la : Tx → Nat} {k : Nat} (hq : e1.filter (fun b => !own fs la k b) = e2.filter (fun b => !own fs la k b))
    (hy : ∀ v c, fs v = k ∧ la v = k → Mt.get v e2 = some c → Mt.get v e3 = some c) (hn : ∀ v, ¬(fs v = k ∧ la v = k) → Mt.get v e3 = Mt.get v p1)
    (h2 : val t e2 = some c) (h1 : val t e1 = some cf) (hp : val t p1 = some cf) : val t e3 = some c := by
  unfold Mt.val at h1 h2 hp ⊢
  split at h2
  · cases h2
  · rename_i hnul
    rw [if_neg hnul] at h1 hp ⊢
    split at h2
    · rename_i hv; rw [if_pos hv]; exact h2
    · rename_i hv
      rw [if_neg hv] at h1 hp ⊢
      by_cases ho : fs t.v = k ∧ la t.v = k
      · exact hy _ _ ho h2
      · have hf : ∀ c' : K, (!own fs la k (t.v, c')) = true := fun c' => by
          unfold own
          simp only [Bool.not_eq_true', Bool.and_eq_false_iff, decide_eq_false_iff_not]
          by_cases h : fs t.v = k
          · exact .inr fun h' => ho ⟨h, h'⟩
          · exact .inl h
        have e1' : Mt.get t.v e1 = Mt.get t.v e2 := by
          rw [← get_filter (p := fun b => !own fs la k b) (e := e1) hf, hq, get_filter (p := fun b => !own fs la k b) hf]
        rw [e1', h2] at h1
        rw [hn _ ho, hp, h1]
/-- of two facts that a literal takes, the home alone bound, and that differ in what it alone asks, one leads to what the other one leads to -/
theorem same_class {r : Ru} {fs la : Tx → Nat} {e0 p p1 e1 e2 : Env} {k : Nat} {l : Lt} {f g : F} (P : Pk r fs la e0 k p) (hk : r.body[k]? = some l)
    (h1 : lit r.home l f p = some p1) (h2 : lit r.home l f e0 = some e1) (h3 : lit r.home l g e0 = some e2) (hq : e1.filter (fun b => !own fs la k b) = e2.filter (fun b => !own fs la k b)) :
    ∃ p2, lit r.home l g p = some p2 ∧ p1.filter (kept la k) = p2.filter (kept la k) := by
  have hkn : k < r.body.length := (List.getElem?_eq_some_iff.1 hk).1
  obtain ⟨e3, he3⟩ : ∃ e3, e3 = e2.filter (own fs la k) ++ p1.filter (fun b => !own fs la k b) := ⟨_, rfl⟩
  have hy : ∀ v c, fs v = k ∧ la v = k → Mt.get v e2 = some c → Mt.get v e3 = some c := fun v c ho hg => by
    rw [he3, get_app, get_filter (fun c' => by unfold own; simp [ho]), hg]; rfl
  have hn : ∀ v, ¬(fs v = k ∧ la v = k) → Mt.get v e3 = Mt.get v p1 := fun v ho => by
    have hf : ∀ c' : K, (!own fs la k (v, c')) = true := fun c' => by
      unfold own
      simp only [Bool.not_eq_true', Bool.and_eq_false_iff, decide_eq_false_iff_not]
      by_cases h : fs v = k
      · exact .inr fun h' => ho ⟨h, h'⟩
      · exact .inl h
    rw [he3, get_app, get_filter (p := fun b => !own fs la k b) hf, get_none.2, Option.none_or]
    intro hm
    obtain ⟨b, hb, rfl⟩ := List.mem_map.1 hm
    have := (List.mem_filter.1 hb).2
    have h2 := hf b.2
    rw [show (b.1, b.2) = b from rfl, this] at h2
    cases h2
  have A := (Mt.lit_has h3).2
  have B := (Mt.lit_has h2).2
  have C := (Mt.lit_has h1).2
  have H : Mt.Has r.home l g e3 := by
    refine ⟨A.pred, A.len, val_pick hq hy hn A.at_ B.at_ C.at_, ?_, fun i q1 q2 => ?_⟩
    · have a := A.by_; have b := B.by_; have c := C.by_
      split
      · rename_i hb; rw [if_pos hb] at a; exact a
      · rename_i hb; rw [if_neg hb] at a b c
        exact val_pick hq hy hn a b c
    · have q3 : i < f.ks.length := by rw [← B.len]; exact q1
      exact val_pick hq hy hn (A.args i q1 q2) (B.args i q1 q3) (C.args i q1 q3)
  have hsub : Sub p e3 := fun v c hg => by
    have ho : ¬(fs v = k ∧ la v = k) := fun ho => by
      rcases P.old v (get_vars hg) with h | h <;> omega
    rw [hn v ho]
    obtain ⟨m, rfl⟩ := lit_ext h1
    rw [get_app, hg]; rfl
  obtain ⟨p2, hp2, hs2⟩ := lit_weak hsub (Mt.has_lit H)
  refine ⟨p2, hp2, ?_⟩
  have hv := lit_vars (e := p) (p := p) rfl h1 hp2
  refine filter_same (q := fun v => !decide (la v ≤ k)) hv (lit_nodup P.nodup h1).1 fun v hkv => ?_
  have ho : ¬(fs v = k ∧ la v = k) := fun ho => by
    simp only [Bool.not_eq_true', decide_eq_false_iff_not] at hkv
    omega
  cases hg : Mt.get v p2 with
  | none =>
    rw [get_none, hv, ← get_none]; exact hg
  | some c =>
    rw [← hn v ho]; exact hs2 v c hg

/-! the walk's ends -/
/-- which facts are worth a try for a literal -/
structure Ch (home : Tm) (fs la : Tx → Nat) (e0 : Env) (m : List F) (k : Nat) (l : Lt) (ns : List Nat) : Prop where
  nodup : ns.Nodup
  lt : ∀ i ∈ ns, i < m.length
  all : ∀ f ∈ m, ∀ e1, lit home l f e0 = some e1 → ∃ j ∈ ns, ∃ g e2, m[j]? = some g ∧ lit home l g e0 = some e2 ∧ e1.filter (fun b => !own fs la k b) = e2.filter (fun b => !own fs la k b)
def Chs (home : Tm) (fs la : Tx → Nat) (e0 : Env) (m : List F) : Nat → List Lt → List (List Nat) → Prop
  | _, [], nss => nss = []
  | k, l :: ls, ns :: nss => Ch home fs la e0 m k l ns ∧ Chs home fs la e0 m (k + 1) ls nss
  | _, _ :: _, [] => False
def Yw (home : Tm) (la : Tx → Nat) (m : List F) : Nat → List Lt → List (List Nat) → Env → List Env
  | _, [], _, p => [p]
  | _, _ :: _, [], _ => []
  | k, l :: ls, ns :: nss, p => ns.flatMap fun i => match m[i]?.bind fun f => stp home la k l f p with
    | none => []
    | some q => Yw home la m (k + 1) ls nss q
theorem drop_get {α : Type} {b ls : List α} {k : Nat} {l : α} (h : b.drop k = l :: ls) : b[k]? = some l ∧ b.drop (k + 1) = ls := by
  have h1 : b[k]? = some l := by rw [← List.head?_drop, h]; rfl
  exact ⟨h1, by rw [← List.tail_drop, h]; rfl⟩
theorem Yw_complete {r : Ru} {fs la : Tx → Nat} {e0 : Env} {m : List F} (hs : Spn r fs la) (h0 : E0 r e0) : ∀ (ls : List Lt) (nss : List (List Nat)) (k : Nat) (e p : Env), k ≤ r.body.length → r.body.drop k = ls → Chs r.home fs la e0 m k ls nss → Pk r fs la e0 k p → Sim la k e p →
    ∀ e2 ∈ envs r.home m ls e, ∃ p2 ∈ Yw r.home la m k ls nss p, Sim la r.body.length e2 p2
  | [], nss, k, e, p, hn, hd, _, _, S, e2, he => by
    rw [envs, List.mem_singleton] at he
    subst he
    have : r.body.length ≤ k := by simpa using hd
    exact ⟨p, by rw [Yw]; exact List.mem_singleton.2 rfl, fun v hv => by
      by_cases h : k ≤ la v
      · exact S v h
      · exfalso; omega⟩
  | l :: ls, [], k, e, p, _, _, hc, _, _, _, _ => by cases hc
  | l :: ls, ns :: nss, k, e, p, _, hd, hc, P, S, e2, he => by
    obtain ⟨hk, hd'⟩ := drop_get hd
    obtain ⟨c1, c2⟩ := hc
    rw [envs, List.mem_flatMap] at he
    obtain ⟨f, hf, he⟩ := he
    cases hl : lit r.home l f e with
    | none => rw [hl] at he; cases he
    | some e1 =>
      rw [hl] at he
      obtain ⟨o, ho1, ho2⟩ := lit_both (f := f) (S.agree hs hk)
      rw [hl] at ho1
      cases o with
      | none => cases ho1
      | some mm =>
        simp only [Option.map_some, Option.some.injEq] at ho1 ho2
        subst ho1
        obtain ⟨e1', hw, _⟩ := lit_weak P.sub ho2
        obtain ⟨j, hj, g, e2', hg, hlg, hq⟩ := c1.all f hf e1' hw
        obtain ⟨p2, hp2, hflt⟩ := same_class P hk ho2 hw hlg hq
        obtain ⟨y, hy, hS⟩ := Yw_complete hs h0 ls nss (k + 1) (e ++ mm) ((p ++ mm).filter (kept la k)) (List.getElem?_eq_some_iff.1 hk).1 hd' c2 (P.step hs h0 hk ho2) (S.step mm) e2 he
        refine ⟨y, ?_, hS⟩
        rw [Yw, List.mem_flatMap]
        refine ⟨j, hj, ?_⟩
        rw [hg]
        simp only [Option.bind_some]
        unfold stp
        rw [hp2]
        simp only [Option.map_some]
        rw [← hflt]; exact hy
theorem Yw_sound {r : Ru} {fs la : Tx → Nat} {e0 : Env} {m : List F} (hs : Spn r fs la) : ∀ (ls : List Lt) (nss : List (List Nat)) (k : Nat) (e p : Env), k ≤ r.body.length → r.body.drop k = ls → Sim la k e p →
    ∀ p2 ∈ Yw r.home la m k ls nss p, ∃ e2 ∈ envs r.home m ls e, Sim la r.body.length e2 p2
  | [], nss, k, e, p, hn, hd, S, p2, hp => by
    rw [Yw, List.mem_singleton] at hp
    subst hp
    have : r.body.length ≤ k := by simpa using hd
    exact ⟨e, by rw [envs]; exact List.mem_singleton.2 rfl, fun v hv => by
      by_cases h : k ≤ la v
      · exact S v h
      · exfalso; omega⟩
  | l :: ls, [], k, e, p, _, _, _, p2, hp => by rw [Yw] at hp; cases hp
  | l :: ls, ns :: nss, k, e, p, _, hd, S, p2, hp => by
    obtain ⟨hk, hd'⟩ := drop_get hd
    rw [Yw, List.mem_flatMap] at hp
    obtain ⟨i, hi, hp⟩ := hp
    cases hm : m[i]? with
    | none => rw [hm] at hp; cases hp
    | some f =>
      rw [hm] at hp
      simp only [Option.bind_some] at hp
      obtain ⟨o, ho1, ho2⟩ := lit_both (f := f) (S.agree hs hk)
      unfold stp at hp
      rw [ho2] at hp
      cases o with
      | none => cases hp
      | some mm =>
        simp only [Option.map_some] at hp ho1
        obtain ⟨e2, he2, hS⟩ := Yw_sound (e0 := e0) hs ls nss (k + 1) (e ++ mm) _ (List.getElem?_eq_some_iff.1 hk).1 hd' (S.step mm) p2 hp
        refine ⟨e2, ?_, hS⟩
        rw [envs, List.mem_flatMap]
        refine ⟨f, List.mem_of_getElem? hm, ?_⟩
        rw [ho1]; exact he2
theorem flat_le {α β γ : Type} {g : α → List β} {h : α → List γ} (hl : ∀ x, (g x).length ≤ (h x).length) : ∀ l : List α, (l.flatMap g).length ≤ (l.flatMap h).length
  | [] => by simp
  | x :: l => by rw [List.flatMap_cons, List.flatMap_cons, List.length_append, List.length_append]; have := hl x; have := flat_le hl l; omega
theorem nodup_flat {β : Type} {g : Nat → List β} : ∀ {ns L : List Nat}, ns.Nodup → (∀ i ∈ ns, i ∈ L) → (ns.flatMap g).length ≤ (L.flatMap g).length
  | [], L, _, _ => by simp
  | i :: ns, L, hn, hs => by
    obtain ⟨h1, h2⟩ := List.nodup_cons.1 hn
    have hi := hs i (List.mem_cons_self ..)
    have h3 := nodup_flat (g := g) (L := L.erase i) h2 fun j hj => (List.mem_erase_of_ne (fun e : j = i => h1 (e ▸ hj))).2 (hs j (List.mem_cons_of_mem _ hj))
    rw [((List.perm_cons_erase hi).flatMap_right g).length_eq, List.flatMap_cons, List.flatMap_cons, List.length_append, List.length_append]
    omega
theorem range_flat {α β : Type} (g : Option α → List β) : ∀ m : List α, (List.range m.length).flatMap (fun i => g m[i]?) = m.flatMap fun x => g (some x)
  | [] => rfl
  | a :: m => by
    rw [List.length_cons, List.range_succ_eq_map, List.flatMap_cons, List.flatMap_cons, List.flatMap_map]
    congr 1
    rw [← range_flat g m]
    rfl
theorem Yw_len {r : Ru} {fs la : Tx → Nat} {e0 : Env} {m : List F} (hs : Spn r fs la) : ∀ (ls : List Lt) (nss : List (List Nat)) (k : Nat) (e p : Env), r.body.drop k = ls → Chs r.home fs la e0 m k ls nss → Sim la k e p → (Yw r.home la m k ls nss p).length ≤ (envs r.home m ls e).length
  | [], nss, k, e, p, _, _, _ => by rw [Yw, envs]; simp
  | l :: ls, [], k, e, p, _, hc, _ => by cases hc
  | l :: ls, ns :: nss, k, e, p, hd, hc, S => by
    obtain ⟨hk, hd'⟩ := drop_get hd
    obtain ⟨c1, c2⟩ := hc
    rw [Yw, envs]
    refine Nat.le_trans (nodup_flat c1.nodup (L := List.range m.length) fun i hi => List.mem_range.2 (c1.lt i hi)) ?_
    rw [range_flat (fun o => match o.bind fun f => stp r.home la k l f p with
      | none => []
      | some q => Yw r.home la m (k + 1) ls nss q) m]
    refine flat_le (fun f => ?_) m
    simp only [Option.bind_some]
    obtain ⟨o, ho1, ho2⟩ := lit_both (f := f) (S.agree hs hk)
    unfold stp
    rw [ho1, ho2]
    cases o with
    | none => simp
    | some mm => exact Yw_len hs ls nss (k + 1) (e ++ mm) _ hd' c2 (S.step mm)
theorem Yw_none {home : Tm} {la : Tx → Nat} {m : List F} : ∀ (ls : List Lt) (nss : List (List Nat)) (k : Nat) (p : Env), nss.length ≤ ls.length → [] ∈ nss → Yw home la m k ls nss p = []
  | [], nss, k, p, h, hm => by
    have : nss = [] := List.eq_nil_of_length_eq_zero (by simpa using h)
    subst this; cases hm
  | l :: ls, [], k, p, _, hm => by cases hm
  | l :: ls, ns :: nss, k, p, h, hm => by
    rw [Yw]
    rcases List.mem_cons.1 hm with rfl | hm
    · simp
    · rw [List.flatMap_eq_nil_iff]
      intro i _
      split
      · rfl
      · exact Yw_none ls nss (k + 1) _ (by simpa using h) hm
theorem Sim.refl (la : Tx → Nat) (k : Nat) (e : Env) : Sim la k e e := fun _ _ => rfl
theorem Sim.head {r : Ru} {fs la : Tx → Nat} {e p : Env} (hs : Spn r fs la) (h : Sim la r.body.length e p) : head r p = head r e := head_agree fun v hv => h v (hs.head v hv)
theorem hd_same {w : Wd} {r : Ru} {e p : Env} (h : head r p = head r e) : hd w r p = hd w r e := by unfold hd; rw [h]
/-- the same heads; not more ends -/
theorem Yw_heads {w : Wd} {r : Ru} {fs la : Tx → Nat} {c : K} {e0 : Env} {m : List F} {nss : List (List Nat)} (hs : Spn r fs la) (hu : uni r.home c [] = some e0) (hc : Chs r.home fs la e0 m 0 r.body nss) :
    (∀ x, x ∈ (Yw r.home la m 0 r.body nss e0).flatMap (hd w r) ↔ x ∈ (envs r.home m r.body e0).flatMap (hd w r)) ∧ (Yw r.home la m 0 r.body nss e0).length ≤ (envs r.home m r.body e0).length := by
  have h0 := E0.of hu
  refine ⟨fun x => ⟨fun hx => ?_, fun hx => ?_⟩, Yw_len hs _ _ 0 e0 e0 (by simp) hc (Sim.refl _ _ _)⟩
  · obtain ⟨p, hp, hx⟩ := List.mem_flatMap.1 hx
    obtain ⟨e, he, S⟩ := Yw_sound (e0 := e0) hs r.body nss 0 e0 e0 (Nat.zero_le _) (by simp) (Sim.refl _ _ _) p hp
    exact List.mem_flatMap.2 ⟨e, he, by rw [← hd_same (S.head hs)]; exact hx⟩
  · obtain ⟨e, he, hx⟩ := List.mem_flatMap.1 hx
    obtain ⟨p, hp, S⟩ := Yw_complete hs h0 r.body nss 0 e0 e0 (Nat.zero_le _) (by simp) hc (Pk.start hs h0) (Sim.refl _ _ _) e he
    exact List.mem_flatMap.2 ⟨p, hp, by rw [hd_same (S.head hs)]; exact hx⟩
/-- all facts: a choice that is always right -/
theorem Ch.range {home : Tm} {fs la : Tx → Nat} {e0 : Env} {m : List F} {k : Nat} {l : Lt} : Ch home fs la e0 m k l (List.range m.length) :=
  ⟨List.nodup_range, fun i hi => List.mem_range.1 hi, fun f hf e1 he => by
    obtain ⟨j, hj⟩ := List.getElem?_of_mem hf
    exact ⟨j, List.mem_range.2 (List.getElem?_eq_some_iff.1 hj).1, f, e1, hj, he, rfl⟩⟩
end Ml
end Go.Proofs.YtpdmmmdkpipmkaaGreatDoor

/-
  The mathematics of layer 12, as the program goes: the walk by points in a list, that goes on from nothing twice. No program in this text.
-/
namespace Go.Proofs.YtpdmmmdkpipmkaaGreatDoor
namespace Ml
open Mt (Tx Env uni unis by1 lit lits head nm val nul place vals name fact eqK eqK_iff)

/-- a rule, what is asked last by whom, facts, which of them are worth a try -/
structure Cx where
  r : Ru
  la : Tx → Nat
  m : List F
  nums : List (List Nat)
def Cx.n (x : Cx) : Nat := x.r.body.length
def Cx.ns (x : Cx) (k : Nat) : List Nat := x.nums.getD k []
/-- what literal k makes of a fact -/
def Cx.st (x : Cx) (k i : Nat) (p : Env) : Option Env := x.r.body[k]?.bind fun l => x.m[i]?.bind fun f => stp x.r.home x.la k l f p
def Cx.Y (x : Cx) (k : Nat) (p : Env) : List Env := Yw x.r.home x.la x.m k (x.r.body.drop k) (x.nums.drop k) p
def Cx.cont (x : Cx) (k : Nat) (p : Env) (i : Nat) : List Env := match x.st k i p with
  | none => []
  | some q => x.Y (k + 1) q
/-- what is still to come at a point -/
def Cx.rem (x : Cx) (k : Nat) (p : Env) (t : Nat) : List Env := if k < x.n then ((x.ns k).drop t).flatMap (x.cont k p) else [p]
theorem Cx.Y_rem (x : Cx) (hn : x.nums.length = x.n) (k : Nat) (p : Env) : x.Y k p = x.rem k p 0 := by
  unfold Cx.Y Cx.rem
  split
  · rename_i hk
    have hk1 : k < x.r.body.length := hk
    have hk2 : k < x.nums.length := by rw [hn]; exact hk
    rw [List.drop_eq_getElem_cons hk1, List.drop_eq_getElem_cons hk2, Yw, List.drop_zero]
    unfold Cx.ns
    rw [List.getD_eq_getElem?_getD, List.getElem?_eq_getElem hk2]
    congr 1
    funext i
    unfold Cx.cont Cx.st Cx.Y
    rw [List.getElem?_eq_getElem hk1]
    rfl
  · rename_i hk
    have : x.r.body.drop k = [] := List.drop_eq_nil_of_le (by unfold Cx.n at hk; omega)
    rw [this, Yw]
theorem Cx.rem_next (x : Cx) {k t : Nat} {p : Env} (hk : k < x.n) (ht : t < (x.ns k).length) : x.rem k p t = x.cont k p (x.ns k)[t] ++ x.rem k p (t + 1) := by
  unfold Cx.rem
  rw [if_pos hk, if_pos hk, List.drop_eq_getElem_cons ht, List.flatMap_cons]
theorem Cx.rem_end (x : Cx) {k t : Nat} {p : Env} (hk : k < x.n) (ht : (x.ns k).length ≤ t) : x.rem k p t = [] := by
  unfold Cx.rem
  rw [if_pos hk, List.drop_eq_nil_of_le ht]; rfl
/-- still to come at all points from number j on -/
def Cx.remL (x : Cx) : Nat → List (Env × Nat) → List Env
  | _, [] => []
  | k, a :: L => x.rem k a.1 a.2 ++ x.remL (k + 1) L
theorem Cx.remL_snoc (x : Cx) (a : Env × Nat) : ∀ (L : List (Env × Nat)) (k : Nat), x.remL k (L ++ [a]) = x.remL k L ++ x.rem (k + L.length) a.1 a.2
  | [], k => by simp [Cx.remL]
  | b :: L, k => by
    rw [List.cons_append, Cx.remL, Cx.remL, Cx.remL_snoc x a L (k + 1), List.append_assoc, List.length_cons, show k + 1 + L.length = k + (L.length + 1) by omega]
def Cx.remD (x : Cx) (j : Nat) (L : List (Env × Nat)) : List Env := x.remL j (L.drop j)
theorem Cx.remD_snoc (x : Cx) {j : Nat} {L : List (Env × Nat)} (a : Env × Nat) (h : j ≤ L.length) : x.remD j (L ++ [a]) = x.remD j L ++ x.rem L.length a.1 a.2 := by
  unfold Cx.remD
  rw [List.drop_append_of_le_length h, Cx.remL_snoc, List.length_drop, show j + (L.length - j) = L.length by omega]
theorem Cx.remD_over (x : Cx) {j : Nat} {L : List (Env × Nat)} (h : L.length ≤ j) : x.remD j L = [] := by
  unfold Cx.remD; rw [List.drop_eq_nil_of_le h]; rfl

/-- these are the variables that are kept ahead of literal k -/
def Cx.V (x : Cx) (e0 : Env) : Nat → List Tx → Prop
  | 0, vs => vs = e0.map (·.1)
  | k + 1, vs => ∃ p q : Env, ∃ i, x.V e0 k (p.map (·.1)) ∧ x.st k i p = some q ∧ vs = q.map (·.1)
theorem filter_vars {la : Tx → Nat} {k : Nat} {e p : Env} (h : e.map (·.1) = p.map (·.1)) : (e.filter (kept la k)).map (·.1) = (p.filter (kept la k)).map (·.1) := by
  have key : ∀ e : Env, (e.filter (kept la k)).map (·.1) = (e.map (·.1)).filter fun v => !decide (la v ≤ k) := fun e => by
    rw [List.filter_map]; rfl
  rw [key, key, h]
theorem Cx.st_vars {x : Cx} {k i j : Nat} {p q p1 q1 : Env} (h : p.map (·.1) = q.map (·.1)) (hp : x.st k i p = some p1) (hq : x.st k j q = some q1) : p1.map (·.1) = q1.map (·.1) := by
  unfold Cx.st at hp hq
  obtain ⟨l, hl, hp⟩ := Option.bind_eq_some_iff.1 hp
  obtain ⟨l', hl', hq⟩ := Option.bind_eq_some_iff.1 hq
  rw [hl] at hl'; cases hl'
  obtain ⟨f, _, hp⟩ := Option.bind_eq_some_iff.1 hp
  obtain ⟨g, _, hq⟩ := Option.bind_eq_some_iff.1 hq
  unfold stp at hp hq
  obtain ⟨p2, h1, rfl⟩ := Option.map_eq_some_iff.1 hp
  obtain ⟨q2, h2, rfl⟩ := Option.map_eq_some_iff.1 hq
  exact filter_vars (lit_vars h h1 h2)
theorem Cx.V_next {x : Cx} {e0 p q : Env} {k i : Nat} (hp : x.V e0 k (p.map (·.1))) (h : x.st k i p = some q) : x.V e0 (k + 1) (q.map (·.1)) := ⟨p, q, i, hp, h, rfl⟩
theorem Cx.V_one {x : Cx} {e0 : Env} : ∀ {k : Nat} {a b : List Tx}, x.V e0 k a → x.V e0 k b → a = b
  | 0, _, _, ha, hb => by rw [Cx.V] at ha hb; rw [ha, hb]
  | k + 1, _, _, ⟨_, _, _, h1, h2, ha⟩, ⟨_, _, _, g1, g2, hb⟩ => by
    rw [ha, hb]
    exact Cx.st_vars (Cx.V_one h1 g1) h2 g2

/-- WHAT HOLDS OF THE WALK: ys was told, L are the points, met are those to which it came -/
structure Wk (x : Cx) (e0 : Env) (ys : List Env) (L : List (Env × Nat)) (met : List (Nat × Env)) : Prop where
  vars : ∀ j p t, L[j]? = some (p, t) → x.V e0 j (p.map (·.1))
  sound : ∀ y, y ∈ ys ∨ y ∈ x.remD 0 L → y ∈ x.Y 0 e0
  full : ∀ y ∈ x.Y 0 e0, y ∈ ys ∨ y ∈ x.remD 0 L
  met : ∀ a ∈ met, x.V e0 (a.1 + 1) (a.2.map (·.1)) ∧ ∀ y ∈ x.Y (a.1 + 1) a.2, y ∈ ys ∨ y ∈ x.remD (a.1 + 1) L
  few : ys.length + (x.remD 0 L).length ≤ (x.Y 0 e0).length
theorem Wk.start (x : Cx) (hn : x.nums.length = x.n) (e0 : Env) : Wk x e0 [] [(e0, 0)] [] := by
  have e : x.remD 0 [(e0, 0)] = x.Y 0 e0 := by
    rw [Cx.Y_rem x hn]; unfold Cx.remD; rw [List.drop_zero, Cx.remL, Cx.remL, List.append_nil]
  refine ⟨fun j p t h => ?_, fun y hy => ?_, fun y hy => .inr (by rw [e]; exact hy), (fun a ha => by cases ha), by rw [e]; simp⟩
  · cases j with
    | zero => cases h; rfl
    | succ j => cases h
  · rw [e] at hy; exact hy.elim (fun h => by cases h) id
theorem get_snoc {α : Type} {L : List α} {a b : α} {j : Nat} (h : (L ++ [a])[j]? = some b) : L[j]? = some b ∨ (j = L.length ∧ b = a) := by
  rcases Nat.lt_or_ge j L.length with hj | hj
  · rw [List.getElem?_append_left hj] at h; exact .inl h
  · rw [List.getElem?_append_right hj] at h
    rcases Nat.eq_or_lt_of_le hj with e | e
    · rw [← e, Nat.sub_self] at h; cases h; exact .inr ⟨e.symm, rfl⟩
    · rw [List.getElem?_eq_none (by simp; omega)] at h; cases h
theorem Wk.top {x : Cx} {e0 p : Env} {t : Nat} {ys : List Env} {L : List (Env × Nat)} {met : List (Nat × Env)} (h : Wk x e0 ys (L ++ [(p, t)]) met) : x.V e0 L.length (p.map (·.1)) :=
  h.vars L.length p t (by rw [List.getElem?_append_right (Nat.le_refl _), Nat.sub_self]; rfl)
/-- the walk goes on with a fact -/
theorem Wk.push {x : Cx} (hn : x.nums.length = x.n) {e0 p q : Env} {t : Nat} {ys : List Env} {L : List (Env × Nat)} {met met' : List (Nat × Env)} (h : Wk x e0 ys (L ++ [(p, t)]) met) (hk : L.length < x.n) (ht : t < (x.ns L.length).length)
    (hs : x.st L.length (x.ns L.length)[t] p = some q) (hm : ∀ a ∈ met', a ∈ met ∨ a = (L.length, q)) : Wk x e0 ys (L ++ [(p, t + 1)] ++ [(q, 0)]) met' := by
  have hV := Cx.V_next h.top hs
  have hc : x.cont L.length p (x.ns L.length)[t] = x.rem (L.length + 1) q 0 := by
    unfold Cx.cont; rw [hs]; exact Cx.Y_rem x hn _ _
  have hR : ∀ j, j ≤ L.length → x.remD j (L ++ [(p, t)]) = x.remD j L ++ (x.rem (L.length + 1) q 0 ++ x.rem L.length p (t + 1)) := fun j hj => by
    rw [Cx.remD_snoc x _ hj]; simp only; rw [Cx.rem_next x hk ht, hc]
  have hR' : ∀ j, j ≤ L.length → x.remD j (L ++ [(p, t + 1)] ++ [(q, 0)]) = x.remD j L ++ x.rem L.length p (t + 1) ++ x.rem (L.length + 1) q 0 := fun j hj => by
    rw [Cx.remD_snoc x _ (by simp; omega), Cx.remD_snoc x _ hj]; simp
  have hmem : ∀ j, j ≤ L.length → ∀ y, y ∈ x.remD j (L ++ [(p, t)]) ↔ y ∈ x.remD j (L ++ [(p, t + 1)] ++ [(q, 0)]) := fun j hj y => by
    rw [hR j hj, hR' j hj]; simp only [List.mem_append]
    constructor
    · rintro (h | h | h)
      · exact .inl (.inl h)
      · exact .inr h
      · exact .inl (.inr h)
    · rintro ((h | h) | h)
      · exact .inl h
      · exact .inr (.inr h)
      · exact .inr (.inl h)
  refine ⟨fun j p' t' hj => ?_, fun y hy => h.sound y (hy.imp id (hmem 0 (Nat.zero_le _) y).2), fun y hy => (h.full y hy).imp id (hmem 0 (Nat.zero_le _) y).1, fun a ha => ?_, ?_⟩
  · rcases get_snoc hj with hj | ⟨rfl, hb⟩
    · rcases get_snoc hj with hj | ⟨rfl, hb⟩
      · exact h.vars j p' t' (by rw [List.getElem?_append_left (List.getElem?_eq_some_iff.1 hj).1]; exact hj)
      · cases hb; exact h.top
    · cases hb; rw [List.length_append, List.length_singleton]; exact hV
  · rcases hm a ha with ha | rfl
    · obtain ⟨h1, h2⟩ := h.met a ha
      refine ⟨h1, fun y hy => ?_⟩
      by_cases hj : a.1 + 1 ≤ L.length
      · exact (h2 y hy).imp id (hmem _ hj y).1
      · refine .inl ((h2 y hy).elim id fun h' => ?_)
        rw [Cx.remD_over x (by simp; omega)] at h'; cases h'
    · refine ⟨hV, fun y hy => .inr ?_⟩
      simp only at hy ⊢
      rw [Cx.Y_rem x hn] at hy
      have : (L ++ [(p, t + 1)]).length = L.length + 1 := by simp
      rw [Cx.remD_snoc x _ (by rw [this]; exact Nat.le_refl _), Cx.remD_over x (by rw [this]; exact Nat.le_refl _), this]
      exact hy
  · have := h.few
    rw [hR 0 (Nat.zero_le _)] at this
    rw [hR' 0 (Nat.zero_le _)]
    simp only [List.length_append] at this ⊢
    omega
/-- a fact that is not taken, or that leads to where the walk was -/
theorem Wk.skip {x : Cx} {e0 p : Env} {t : Nat} {ys : List Env} {L : List (Env × Nat)} {met : List (Nat × Env)} (h : Wk x e0 ys (L ++ [(p, t)]) met) (hk : L.length < x.n) (ht : t < (x.ns L.length).length)
    (hs : ∀ q, x.st L.length (x.ns L.length)[t] p = some q → (L.length, q) ∈ met) : Wk x e0 ys (L ++ [(p, t + 1)]) met := by
  have hc : ∀ y ∈ x.cont L.length p (x.ns L.length)[t], y ∈ ys := fun y hy => by
    unfold Cx.cont at hy
    cases hq : x.st L.length (x.ns L.length)[t] p with
    | none => rw [hq] at hy; cases hy
    | some q =>
      rw [hq] at hy
      rcases (h.met _ (hs q hq)).2 y hy with h' | h'
      · exact h'
      · rw [Cx.remD_over x (by simp)] at h'; cases h'
  have hR : ∀ j, j ≤ L.length → x.remD j (L ++ [(p, t)]) = x.remD j L ++ (x.cont L.length p (x.ns L.length)[t] ++ x.rem L.length p (t + 1)) := fun j hj => by
    rw [Cx.remD_snoc x _ hj]; simp only; rw [Cx.rem_next x hk ht]
  have hR' : ∀ j, j ≤ L.length → x.remD j (L ++ [(p, t + 1)]) = x.remD j L ++ x.rem L.length p (t + 1) := fun j hj => Cx.remD_snoc x _ hj
  have hto : ∀ j, j ≤ L.length → ∀ y, y ∈ ys ∨ y ∈ x.remD j (L ++ [(p, t)]) → y ∈ ys ∨ y ∈ x.remD j (L ++ [(p, t + 1)]) := fun j hj y hy => by
    rw [hR j hj] at hy; rw [hR' j hj]
    simp only [List.mem_append] at hy ⊢
    rcases hy with h | h | h | h
    · exact .inl h
    · exact .inr (.inl h)
    · exact .inl (hc y h)
    · exact .inr (.inr h)
  have hfrom : ∀ y, y ∈ x.remD 0 (L ++ [(p, t + 1)]) → y ∈ x.remD 0 (L ++ [(p, t)]) := fun y hy => by
    rw [hR' 0 (Nat.zero_le _)] at hy; rw [hR 0 (Nat.zero_le _)]
    simp only [List.mem_append] at hy ⊢
    exact hy.imp id .inr
  refine ⟨fun j p' t' hj => ?_, fun y hy => h.sound y (hy.imp id (hfrom y)), fun y hy => hto 0 (Nat.zero_le _) y (h.full y hy), fun a ha => ?_, ?_⟩
  · rcases get_snoc hj with hj | ⟨rfl, hb⟩
    · exact h.vars j p' t' (by rw [List.getElem?_append_left (List.getElem?_eq_some_iff.1 hj).1]; exact hj)
    · cases hb; exact h.top
  · obtain ⟨h1, h2⟩ := h.met a ha
    refine ⟨h1, fun y hy => ?_⟩
    by_cases hj : a.1 + 1 ≤ L.length
    · exact hto _ hj y (h2 y hy)
    · refine .inl ((h2 y hy).elim id fun h' => ?_)
      rw [Cx.remD_over x (by simp; omega)] at h'; cases h'
  · have := h.few
    rw [hR 0 (Nat.zero_le _)] at this
    rw [hR' 0 (Nat.zero_le _)]
    simp only [List.length_append] at this ⊢
    omega
/-- a point is left, told or tried out -/
theorem Wk.drop {x : Cx} {e0 p : Env} {t : Nat} {ys ys' : List Env} {L : List (Env × Nat)} {met : List (Nat × Env)} (h : Wk x e0 ys (L ++ [(p, t)]) met) (hy : ys' = ys ++ x.rem L.length p t) : Wk x e0 ys' L met := by
  have hR : ∀ j, j ≤ L.length → x.remD j (L ++ [(p, t)]) = x.remD j L ++ x.rem L.length p t := fun j hj => Cx.remD_snoc x _ hj
  have hto : ∀ j, j ≤ L.length → ∀ y, y ∈ ys ∨ y ∈ x.remD j (L ++ [(p, t)]) → y ∈ ys' ∨ y ∈ x.remD j L := fun j hj y hq => by
    rw [hR j hj] at hq
    rw [hy]
    simp only [List.mem_append] at hq ⊢
    rcases hq with h | h | h
    · exact .inl (.inl h)
    · exact .inr h
    · exact .inl (.inr h)
  refine ⟨fun j p' t' hj => h.vars j p' t' (by rw [List.getElem?_append_left (List.getElem?_eq_some_iff.1 hj).1]; exact hj), fun y hq => h.sound y ?_, fun y hq => hto 0 (Nat.zero_le _) y (h.full y hq), fun a ha => ?_, ?_⟩
  · rw [hR 0 (Nat.zero_le _)]
    rw [hy] at hq
    simp only [List.mem_append] at hq ⊢
    rcases hq with (h | h) | h
    · exact .inl h
    · exact .inr (.inr h)
    · exact .inr (.inl h)
  · obtain ⟨h1, h2⟩ := h.met a ha
    refine ⟨h1, fun y hq => ?_⟩
    by_cases hj : a.1 + 1 ≤ L.length
    · exact hto _ hj y (h2 y hq)
    · refine .inl ((h2 y hq).elim (fun h => by rw [hy]; exact List.mem_append_left _ h) fun h' => ?_)
      rw [Cx.remD_over x (by simp; omega)] at h'; cases h'
  · have := h.few
    rw [hR 0 (Nat.zero_le _)] at this
    rw [hy]
    simp only [List.length_append] at this ⊢
    omega
theorem Wk.pop {x : Cx} {e0 p : Env} {t : Nat} {ys : List Env} {L : List (Env × Nat)} {met : List (Nat × Env)} (h : Wk x e0 ys (L ++ [(p, t)]) met) (hk : L.length < x.n) (ht : (x.ns L.length).length ≤ t) : Wk x e0 ys L met :=
  h.drop (by rw [Cx.rem_end x hk ht, List.append_nil])
theorem Wk.tell {x : Cx} {e0 p : Env} {t : Nat} {ys : List Env} {L : List (Env × Nat)} {met : List (Nat × Env)} (h : Wk x e0 ys (L ++ [(p, t)]) met) (hk : x.n ≤ L.length) : Wk x e0 (ys ++ [p]) L met :=
  h.drop (by unfold Cx.rem; rw [if_neg (by omega)])
/-- at a point behind the last literal something is told that the walk leads to, and not too often -/
theorem Wk.told {x : Cx} {e0 p : Env} {t : Nat} {ys : List Env} {L : List (Env × Nat)} {met : List (Nat × Env)} (h : Wk x e0 ys (L ++ [(p, t)]) met) (hk : x.n ≤ L.length) : p ∈ x.Y 0 e0 ∧ ys.length < (x.Y 0 e0).length := by
  have h1 := h.tell hk
  refine ⟨h1.sound p (.inl (by simp)), ?_⟩
  have := h1.few
  simp only [List.length_append, List.length_cons, List.length_nil] at this
  omega
theorem Wk.fin {x : Cx} {e0 : Env} {ys : List Env} {met : List (Nat × Env)} (h : Wk x e0 ys [] met) : (∀ y, y ∈ ys ↔ y ∈ x.Y 0 e0) ∧ ys.length ≤ (x.Y 0 e0).length := by
  have e : x.remD 0 [] = [] := Cx.remD_over x (Nat.le_refl _)
  refine ⟨fun y => ⟨fun hy => h.sound y (.inl hy), fun hy => (h.full y hy).elim id fun h => by rw [e] at h; cases h⟩, by have := h.few; omega⟩

/-! it has an end -/
def Cx.wt (x : Cx) : Nat → Nat → Nat
  | 0, _ => 1
  | d + 1, k => 1 + (x.ns k).length * (1 + x.wt d (k + 1))
def Cx.left (x : Cx) (k t : Nat) : Nat := if k < x.n then 1 + ((x.ns k).length - t) * (1 + x.wt (x.n - (k + 1)) (k + 1)) else 1
def Cx.lefts (x : Cx) : Nat → List (Env × Nat) → Nat
  | _, [] => 0
  | k, a :: L => x.left k a.2 + x.lefts (k + 1) L
theorem Cx.lefts_snoc (x : Cx) (a : Env × Nat) : ∀ (L : List (Env × Nat)) (k : Nat), x.lefts k (L ++ [a]) = x.lefts k L + x.left (k + L.length) a.2
  | [], k => by simp [Cx.lefts]
  | b :: L, k => by
    rw [List.cons_append, Cx.lefts, Cx.lefts, Cx.lefts_snoc x a L (k + 1), List.length_cons, show k + 1 + L.length = k + (L.length + 1) by omega]; omega
theorem Cx.left_pos (x : Cx) (k t : Nat) : 0 < x.left k t := by unfold Cx.left; split <;> omega
theorem Cx.left_start (x : Cx) (k : Nat) : x.left k 0 ≤ x.wt (x.n - k) k := by
  unfold Cx.left
  split
  · rename_i hk
    rw [show x.n - k = (x.n - (k + 1)) + 1 by omega, Cx.wt, Nat.sub_zero]; exact Nat.le_refl _
  · rename_i hk
    rw [show x.n - k = 0 by omega, Cx.wt]; exact Nat.le_refl _
theorem Cx.lefts_drop (x : Cx) (p : Env) (t : Nat) (L : List (Env × Nat)) : x.lefts 0 L < x.lefts 0 (L ++ [(p, t)]) := by
  rw [Cx.lefts_snoc]; have := Cx.left_pos x (0 + L.length) t; simp only; omega
theorem Cx.left_less (x : Cx) {k t : Nat} (hk : k < x.n) (ht : t < (x.ns k).length) : x.left k (t + 1) + (1 + x.wt (x.n - (k + 1)) (k + 1)) = x.left k t := by
  unfold Cx.left
  rw [if_pos hk, if_pos hk, show (x.ns k).length - t = ((x.ns k).length - (t + 1)) + 1 by omega, Nat.succ_mul]; omega
theorem Cx.lefts_skip (x : Cx) {p : Env} {t : Nat} {L : List (Env × Nat)} (hk : L.length < x.n) (ht : t < (x.ns L.length).length) : x.lefts 0 (L ++ [(p, t + 1)]) < x.lefts 0 (L ++ [(p, t)]) := by
  rw [Cx.lefts_snoc, Cx.lefts_snoc]; have := Cx.left_less x hk ht; simp only [Nat.zero_add]; omega
theorem Cx.lefts_push (x : Cx) {p q : Env} {t : Nat} {L : List (Env × Nat)} (hk : L.length < x.n) (ht : t < (x.ns L.length).length) : x.lefts 0 (L ++ [(p, t + 1)] ++ [(q, 0)]) < x.lefts 0 (L ++ [(p, t)]) := by
  rw [Cx.lefts_snoc, Cx.lefts_snoc, Cx.lefts_snoc]
  have := Cx.left_less x hk ht
  have := Cx.left_start x (L.length + 1)
  simp only [Nat.zero_add, List.length_append, List.length_cons, List.length_nil]; omega
end Ml
end Go.Proofs.YtpdmmmdkpipmkaaGreatDoor

/-
  The mathematics of layer 12, as the program goes: by which literals variables are asked; keys of what a walk came to; how many points a walk has at most. No program in this text.
-/
namespace Go.Proofs.YtpdmmmdkpipmkaaGreatDoor
namespace Ml
open Mt (Tx Env uni unis by1 lit lits head nm val nul place vals name fact eqK eqK_iff)

/-! the first and the last literal in which a variable stands -/
abbrev SpF := Tx → Option (Nat × Nat)
def mk1 (k : Nat) (f : SpF) (v : Tx) : SpF := fun u => if u = v then some (match f u with
  | none => (k, k)
  | some x => (x.1, k)) else f u
def mks (k : Nat) (f : SpF) (vs : List Tx) : SpF := vs.foldl (mk1 k) f
def spB : Nat → List Lt → SpF → SpF
  | _, [], f => f
  | k, l :: ls, f => spB (k + 1) ls (mks k f (lvars l))
def spans (r : Ru) : SpF := mks r.body.length (spB 0 r.body fun _ => none) (hvars r)
def fsOf (f : SpF) (v : Tx) : Nat := ((f v).getD (0, 0)).1
def laOf (f : SpF) (v : Tx) : Nat := ((f v).getD (0, 0)).2
def GoodS (K : Nat) (f : SpF) : Prop := ∀ v x, f v = some x → x.1 ≤ x.2 ∧ x.2 ≤ K
def HasS (j : Nat) (v : Tx) (f : SpF) : Prop := ∃ x, f v = some x ∧ x.1 ≤ j ∧ j ≤ x.2
theorem mk1_good {k : Nat} {f : SpF} (h : GoodS k f) (v : Tx) : GoodS k (mk1 k f v) := fun u x hx => by
  unfold mk1 at hx
  split at hx
  · cases hf : f u with
    | none => rw [hf] at hx; cases hx; exact ⟨Nat.le_refl _, Nat.le_refl _⟩
    | some y => rw [hf] at hx; cases hx; have := h u y hf; exact ⟨by show y.1 ≤ k; omega, Nat.le_refl _⟩
  · exact h u x hx
theorem mk1_has {k : Nat} {f : SpF} (h : GoodS k f) (v : Tx) : HasS k v (mk1 k f v) := by
  cases hf : f v with
  | none => exact ⟨(k, k), by unfold mk1; rw [if_pos rfl, hf], Nat.le_refl _, Nat.le_refl _⟩
  | some y => have := h v y hf; exact ⟨(y.1, k), by unfold mk1; rw [if_pos rfl, hf], by show y.1 ≤ k; omega, Nat.le_refl _⟩
theorem HasS.mk1 {j k : Nat} {u : Tx} {f : SpF} (h : HasS j u f) (hg : GoodS k f) (v : Tx) : HasS j u (mk1 k f v) := by
  obtain ⟨x, hx, h1, h2⟩ := h
  by_cases e : u = v
  · have := hg u x hx
    exact ⟨(x.1, k), by unfold Ml.mk1; rw [if_pos e, hx], h1, by show j ≤ k; omega⟩
  · exact ⟨x, by unfold Ml.mk1; rw [if_neg e]; exact hx, h1, h2⟩
theorem mks_good {k : Nat} : ∀ {vs : List Tx} {f : SpF}, GoodS k f → GoodS k (mks k f vs)
  | [], _, h => h
  | v :: vs, _, h => mks_good (vs := vs) (mk1_good h v)
theorem HasS.mks {j k : Nat} {u : Tx} : ∀ {vs : List Tx} {f : SpF}, HasS j u f → GoodS k f → HasS j u (mks k f vs)
  | [], _, h, _ => h
  | v :: vs, _, h, hg => HasS.mks (vs := vs) (h.mk1 hg v) (mk1_good hg v)
theorem mks_has {k : Nat} : ∀ {vs : List Tx} {f : SpF}, GoodS k f → ∀ v ∈ vs, HasS k v (mks k f vs)
  | [], _, _, v, hv => by cases hv
  | u :: vs, f, h, v, hv => by
    rcases List.mem_cons.1 hv with rfl | hv
    · exact HasS.mks (vs := vs) (mk1_has h _) (mk1_good h _)
    · exact mks_has (vs := vs) (mk1_good h u) v hv
theorem GoodS.mono {k k' : Nat} {f : SpF} (h : GoodS k f) (hk : k ≤ k') : GoodS k' f := fun v x hx => by have := h v x hx; omega
theorem spB_good : ∀ {ls : List Lt} {k : Nat} {f : SpF}, GoodS k f → GoodS (k + ls.length) (spB k ls f)
  | [], _, _, h => h
  | l :: ls, k, _, h => by
    have := spB_good (ls := ls) (k := k + 1) ((mks_good (vs := lvars l) h).mono (Nat.le_succ k))
    rw [List.length_cons, show k + (ls.length + 1) = k + 1 + ls.length by omega]
    exact this
theorem HasS.spB {j : Nat} {u : Tx} : ∀ {ls : List Lt} {k : Nat} {f : SpF}, HasS j u f → GoodS k f → HasS j u (spB k ls f)
  | [], _, _, h, _ => h
  | l :: ls, k, _, h, hg => HasS.spB (ls := ls) (k := k + 1) (h.mks (vs := lvars l) hg) ((mks_good hg).mono (Nat.le_succ k))
theorem spB_has : ∀ {ls : List Lt} {k : Nat} {f : SpF}, GoodS k f → ∀ i l, ls[i]? = some l → ∀ v ∈ lvars l, HasS (k + i) v (spB k ls f)
  | [], _, _, _, i, l, h, _, _ => by cases h
  | l :: ls, k, f, hg, 0, l', h, v, hv => by
    cases h
    exact HasS.spB (ls := ls) (k := k + 1) (mks_has hg v hv) ((mks_good hg).mono (Nat.le_succ k))
  | l :: ls, k, f, hg, i + 1, l', h, v, hv => by
    have := spB_has (ls := ls) (k := k + 1) (f := mks k f (lvars l)) ((mks_good hg).mono (Nat.le_succ k)) i l' h v hv
    rw [show k + (i + 1) = k + 1 + i by omega]
    exact this
theorem spans_spn (r : Ru) : Spn r (fsOf (spans r)) (laOf (spans r)) := by
  have g0 : GoodS 0 (fun _ => none : SpF) := fun v x h => by cases h
  have g1 : GoodS r.body.length (spB 0 r.body fun _ => none) := by have := spB_good (ls := r.body) g0; rwa [Nat.zero_add] at this
  have key : ∀ {j : Nat} {v : Tx}, HasS j v (spans r) → fsOf (spans r) v ≤ j ∧ j ≤ laOf (spans r) v := fun h => by
    obtain ⟨x, hx, h1, h2⟩ := h
    unfold fsOf laOf
    rw [hx]; exact ⟨h1, h2⟩
  refine ⟨fun k l hl v hv => key ?_, fun v hv => (key (j := r.body.length) (mks_has g1 v hv)).2⟩
  have := spB_has (ls := r.body) g0 k l hl v hv
  rw [Nat.zero_add] at this
  exact this.mks g1

/-! keys -/
theorem cut_at {a b x y : List UInt8} (ha : (32 : UInt8) ∉ a) (hb : (32 : UInt8) ∉ b) (h : a ++ 32 :: x = b ++ 32 :: y) : a = b ∧ x = y := by
  induction a generalizing b with
  | nil =>
    cases b with
    | nil => exact ⟨rfl, by simpa using h⟩
    | cons c b => simp only [List.nil_append, List.cons_append, List.cons.injEq] at h; exact absurd (h.1 ▸ List.mem_cons_self ..) hb
  | cons c a ih =>
    cases b with
    | nil => simp only [List.nil_append, List.cons_append, List.cons.injEq] at h; exact absurd (h.1 ▸ List.mem_cons_self ..) ha
    | cons d b =>
      simp only [List.cons_append, List.cons.injEq] at h
      obtain ⟨rfl, h⟩ := h
      obtain ⟨rfl, hx⟩ := ih (fun hm => ha (List.mem_cons_of_mem _ hm)) (fun hm => hb (List.mem_cons_of_mem _ hm)) h
      exact ⟨rfl, hx⟩
/-- texts of numbers: whatever they are, they have no blank and tell the numbers apart -/
structure Dec (d : Int → List UInt8) : Prop where
  plain : ∀ n, (32 : UInt8) ∉ d n
  inj : ∀ m n, d m = d n → m = n
def bTx (b : Bool) : List UInt8 := if b = true then [116, 114, 117, 101] else [102, 97, 108, 115, 101]
def kTx (d : Int → List UInt8) (b : Tx × K) : List UInt8 := 32 :: (bTx b.2.num ++ 32 :: (d b.2.n ++ 32 :: (d (b.2.s.length : Int) ++ 32 :: b.2.s)))
def keyT (d : Int → List UInt8) (k : Nat) (e : Env) : List UInt8 := d (k : Int) ++ e.flatMap (kTx d)
theorem bTx_plain (b : Bool) : (32 : UInt8) ∉ bTx b := by cases b <;> decide
theorem bTx_inj {a b : Bool} (h : bTx a = bTx b) : a = b := by cases a <;> cases b <;> first | rfl | cases h
theorem flat_inj {d : Int → List UInt8} (hd : Dec d) : ∀ {e p : Env}, e.map (·.1) = p.map (·.1) → e.flatMap (kTx d) = p.flatMap (kTx d) → e = p
  | [], [], _, _ => rfl
  | [], _ :: _, h, _ => by simp at h
  | _ :: _, [], h, _ => by simp at h
  | (v, a) :: e, (u, b) :: p, h, hk => by
    simp only [List.map_cons, List.cons.injEq] at h
    obtain ⟨rfl, h⟩ := h
    rw [List.flatMap_cons, List.flatMap_cons] at hk
    unfold kTx at hk
    simp only [List.cons_append, List.append_assoc, List.cons.injEq, true_and] at hk
    obtain ⟨h1, hk⟩ := cut_at (bTx_plain _) (bTx_plain _) hk
    obtain ⟨h2, hk⟩ := cut_at (hd.plain _) (hd.plain _) hk
    obtain ⟨h3, hk⟩ := cut_at (hd.plain _) (hd.plain _) hk
    have h3 : a.s.length = b.s.length := by have := hd.inj _ _ h3; omega
    obtain ⟨h4, hk⟩ := List.append_inj hk h3
    have h5 := flat_inj hd h hk
    have hab : a = b := by
      obtain ⟨x, y, z⟩ := a; obtain ⟨x', y', z'⟩ := b
      simp only at h1 h2 h4
      rw [bTx_inj h1, hd.inj _ _ h2, h4]
    rw [hab, h5]
theorem key_k {d : Int → List UInt8} (hd : Dec d) {k j : Nat} {e p : Env} (h : keyT d k e = keyT d j p) : k = j := by
  have ends : ∀ (e : Env), e.flatMap (kTx d) = [] ∨ ∃ x, e.flatMap (kTx d) = 32 :: x := fun e => by
    cases e with
    | nil => exact .inl rfl
    | cons b e => exact .inr ⟨_, by rw [List.flatMap_cons]; unfold kTx; rw [List.cons_append]⟩
  unfold keyT at h
  have key : d (k : Int) = d (j : Int) := by
    rcases ends e with h1 | ⟨x, h1⟩ <;> rcases ends p with h2 | ⟨y, h2⟩ <;> rw [h1, h2] at h
    · simpa using h
    · exfalso
      rw [List.append_nil] at h
      exact hd.plain k (by rw [h]; simp)
    · exfalso
      rw [List.append_nil] at h
      exact hd.plain j (by rw [← h]; simp)
    · exact (cut_at (hd.plain _) (hd.plain _) h).1
  have := hd.inj _ _ key
  omega
theorem key_inj {d : Int → List UInt8} (hd : Dec d) {k j : Nat} {e p : Env} (hv : k = j → e.map (·.1) = p.map (·.1)) (h : keyT d k e = keyT d j p) : k = j ∧ e = p := by
  obtain rfl := key_k hd h
  unfold keyT at h
  exact ⟨rfl, flat_inj hd (hv rfl) (List.append_cancel_left h)⟩

/-! how many points -/
/-- all to which the whole walk comes -/
def parts (home : Tm) (m : List F) : List Lt → Env → List Env
  | [], _ => []
  | l :: ls, e => m.flatMap fun f => match lit home l f e with
    | none => []
    | some e1 => e1 :: parts home m ls e1
theorem envs_parts {home : Tm} {m : List F} : ∀ (ls : List Lt) (e : Env), (envs home m ls e).length ≤ (parts home m ls e).length + 1
  | [], e => by rw [envs, parts]; simp
  | l :: ls, e => by
    rw [envs, parts]
    refine Nat.le_trans (flat_le (fun f => ?_) m) (Nat.le_succ _)
    cases lit home l f e with
    | none => simp
    | some e1 => simp only [List.length_cons]; exact envs_parts ls e1
theorem frm_parts {w : Wd} {r : Ru} {m : List F} : ∀ (ls : List Lt) (e : Env) (st : Cn × List F), (frm w r m ls e st).1.heavy = false → (parts r.home m ls e).length + st.1.done ≤ (frm w r m ls e st).1.done
  | [], e, st, _ => by rw [frm, parts]; simp
  | l :: ls, e, st, h => by
    rw [frm] at h ⊢
    rw [parts]
    suffices ∀ (ms : List F) (st : Cn × List F), (ms.foldl (one r.home l e (frm w r m ls)) st).1.heavy = false → (ms.flatMap fun f => match lit r.home l f e with
        | none => []
        | some e1 => e1 :: parts r.home m ls e1).length + st.1.done ≤ (ms.foldl (one r.home l e (frm w r m ls)) st).1.done from this m st h
    intro ms
    induction ms with
    | nil => intro st _; simp
    | cons f ms ih =>
      intro st h
      rw [List.foldl_cons] at h ⊢
      have h2 := ih _ h
      rw [List.flatMap_cons, List.length_append]
      have h1 := fold_heavy h
      have h0 : st.1.heavy = false := by
        cases hs : st.1.heavy with
        | false => rfl
        | true => rw [one_stop hs, hs] at h1; cases h1
      suffices (match lit r.home l f e with
        | none => []
        | some e1 => e1 :: parts r.home m ls e1).length + st.1.done ≤ (one r.home l e (frm w r m ls) st f).1.done by omega
      unfold one at h1 ⊢
      rw [if_neg (by rw [h0]; decide)] at h1 ⊢
      cases hl : lit r.home l f e with
      | none => simp [bump]
      | some e1 =>
        rw [hl] at h1
        have h3 := frm_parts ls e1 _ h1
        simp only [bump, List.length_cons] at h3 ⊢
        omega
/-- of few points: each rule at each home -/
def Few (w : Wd) (l : List Ru) (m : List F) : Prop := ∀ r ∈ l, ∀ h ∈ w.homes, ∀ e0, uni r.home (nm h) [] = some e0 → (parts r.home m r.body e0).length ≤ 60000
theorem homes_mem {w : Wd} {r : Ru} {m : List F} : ∀ (hs : List Tx) {st : Cn × List F}, (hs.foldl (byHome w r m) st).1.heavy = false → st.1.Ok → ∀ h ∈ hs, ∀ e0, uni r.home (nm h) [] = some e0 → (parts r.home m r.body e0).length ≤ 60000
  | [], _, _, _, _, h, _, _ => by cases h
  | x :: hs, st, hh, hk, h, hm, e0, hu => by
    rw [List.foldl_cons] at hh
    rcases List.mem_cons.1 hm with rfl | hm
    · have h1 := (homes_light hs hh).1
      have h2 := byHome_ok (w := w) (r := r) (m := m) hk h
      have h3 := h2.light h1
      unfold byHome at h1 h3
      rw [hu] at h1 h3
      have := frm_parts _ _ _ h1
      simp only at this h3
      omega
    · exact homes_mem hs hh (byHome_ok hk x) h hm e0 hu
theorem rules_mem {w : Wd} {m : List F} : ∀ (l : List Ru) {st : Cn × List F}, (l.foldl (byRule w m) st).1.heavy = false → st.1.Ok → Few w l m
  | [], _, _, _ => fun _ h => by cases h
  | r :: l, st, hh, hk => fun r' hr h hm e0 hu => by
    rw [List.foldl_cons] at hh
    rcases List.mem_cons.1 hr with rfl | hr
    · exact homes_mem w.homes (rules_light l hh).1 hk h hm e0 hu
    · exact rules_mem l hh (homes_ok _ hk) r' hr h hm e0 hu
theorem onceR_fewP {w : Wd} {l : List Ru} {m : List F} {c : Cn} (hc : c.Ok) (h : (onceR w l m c).1.heavy = false) : Few w l m := rules_mem l h hc
theorem Few.rules {w : Wd} {l l' : List Ru} {m : List F} (h : Few w l m) (hl : ∀ r ∈ l', r ∈ l) : Few w l' m := fun r hr => h r (hl r hr)
theorem nodup_flatF {β : Type} {g : F → List β} : ∀ {ns L : List F}, ns.Nodup → (∀ i ∈ ns, i ∈ L) → (ns.flatMap g).length ≤ (L.flatMap g).length
  | [], L, _, _ => by simp
  | i :: ns, L, hn, hs => by
    letI : BEq F := ⟨Mt.eqF⟩
    haveI : LawfulBEq F := { eq_of_beq := fun {x y} h => (Mt.eqF_iff x y).1 h, rfl := fun {x} => (Mt.eqF_iff x x).2 rfl }
    obtain ⟨h1, h2⟩ := List.nodup_cons.1 hn
    have hi := hs i (List.mem_cons_self ..)
    have h3 := nodup_flatF (g := g) (L := L.erase i) h2 fun j hj => (List.mem_erase_of_ne (fun e : j = i => h1 (e ▸ hj))).2 (hs j (List.mem_cons_of_mem _ hj))
    rw [((List.perm_cons_erase hi).flatMap_right g).length_eq, List.flatMap_cons, List.flatMap_cons, List.length_append, List.length_append]
    omega
theorem parts_less {home : Tm} {m m' : List F} (hn : m'.Nodup) (hs : ∀ x ∈ m', x ∈ m) : ∀ (ls : List Lt) (e : Env), (parts home m' ls e).length ≤ (parts home m ls e).length
  | [], e => by rw [parts, parts]; exact Nat.le_refl _
  | l :: ls, e => by
    rw [parts, parts]
    refine Nat.le_trans (nodup_flatF hn hs) (flat_le (fun f => ?_) m)
    cases lit home l f e with
    | none => simp
    | some e1 => simp only [List.length_cons]; have := parts_less (home := home) hn hs ls e1; omega
theorem Few.sort {w : Wd} {l : List Ru} {m : List F} (h : Few w l m) : Few w l (sortF m) := fun r hr x hx e0 hu =>
  Nat.le_trans (parts_less (SS.nodup (sortF_SS m)) (fun _ hy => (mem_sortF _ _).1 hy) r.body e0) (h r hr x hx e0 hu)
/-- the points of the program's walk -/
def Pw (home : Tm) (la : Tx → Nat) (m : List F) : Nat → List Lt → List (List Nat) → Env → List Env
  | _, [], _, _ => []
  | _, _ :: _, [], _ => []
  | k, l :: ls, ns :: nss, p => ns.flatMap fun i => match m[i]?.bind fun f => stp home la k l f p with
    | none => []
    | some q => q :: Pw home la m (k + 1) ls nss q
theorem Pw_len {r : Ru} {fs la : Tx → Nat} {e0 : Env} {m : List F} (hs : Spn r fs la) : ∀ (ls : List Lt) (nss : List (List Nat)) (k : Nat) (e p : Env), r.body.drop k = ls → Chs r.home fs la e0 m k ls nss → Sim la k e p → (Pw r.home la m k ls nss p).length ≤ (parts r.home m ls e).length
  | [], nss, k, e, p, _, _, _ => by rw [Pw, parts]; simp
  | l :: ls, [], k, e, p, _, hc, _ => by cases hc
  | l :: ls, ns :: nss, k, e, p, hd, hc, S => by
    obtain ⟨hk, hd'⟩ := drop_get hd
    obtain ⟨c1, c2⟩ := hc
    rw [Pw, parts]
    refine Nat.le_trans (nodup_flat c1.nodup (L := List.range m.length) fun i hi => List.mem_range.2 (c1.lt i hi)) ?_
    rw [range_flat (fun o => match o.bind fun f => stp r.home la k l f p with
      | none => []
      | some q => q :: Pw r.home la m (k + 1) ls nss q) m]
    refine flat_le (fun f => ?_) m
    simp only [Option.bind_some]
    obtain ⟨o, ho1, ho2⟩ := lit_both (f := f) (S.agree hs hk)
    unfold stp
    rw [ho1, ho2]
    cases o with
    | none => simp
    | some mm => simp only [Option.map_some, List.length_cons]; have := Pw_len hs ls nss (k + 1) (e ++ mm) _ hd' c2 (S.step mm); omega
def Cx.P (x : Cx) (k : Nat) (p : Env) : List Env := Pw x.r.home x.la x.m k (x.r.body.drop k) (x.nums.drop k) p
def Cx.contP (x : Cx) (k : Nat) (p : Env) (i : Nat) : List Env := match x.st k i p with
  | none => []
  | some q => q :: x.P (k + 1) q
def Cx.remP (x : Cx) (k : Nat) (p : Env) (t : Nat) : List Env := if k < x.n then ((x.ns k).drop t).flatMap (x.contP k p) else []
theorem Cx.P_rem (x : Cx) (hn : x.nums.length = x.n) (k : Nat) (p : Env) : x.P k p = x.remP k p 0 := by
  unfold Cx.P Cx.remP
  split
  · rename_i hk
    have hk1 : k < x.r.body.length := hk
    have hk2 : k < x.nums.length := by rw [hn]; exact hk
    rw [List.drop_eq_getElem_cons hk1, List.drop_eq_getElem_cons hk2, Pw, List.drop_zero]
    unfold Cx.ns
    rw [List.getD_eq_getElem?_getD, List.getElem?_eq_getElem hk2]
    congr 1
    funext i
    unfold Cx.contP Cx.st Cx.P
    rw [List.getElem?_eq_getElem hk1]
    rfl
  · rename_i hk
    have : x.r.body.drop k = [] := List.drop_eq_nil_of_le (by unfold Cx.n at hk; omega)
    rw [this, Pw]
def Cx.cntP (x : Cx) : Nat → List (Env × Nat) → Nat
  | _, [] => 0
  | k, a :: L => (x.remP k a.1 a.2).length + x.cntP (k + 1) L
theorem Cx.cntP_snoc (x : Cx) (a : Env × Nat) : ∀ (L : List (Env × Nat)) (k : Nat), x.cntP k (L ++ [a]) = x.cntP k L + (x.remP (k + L.length) a.1 a.2).length
  | [], k => by simp [Cx.cntP]
  | b :: L, k => by
    rw [List.cons_append, Cx.cntP, Cx.cntP, Cx.cntP_snoc x a L (k + 1), List.length_cons, show k + 1 + L.length = k + (L.length + 1) by omega]; omega
/-- how many are met and still may be -/
def Wc (x : Cx) (e0 : Env) (L : List (Env × Nat)) (n : Nat) : Prop := n + x.cntP 0 L ≤ (x.P 0 e0).length
theorem Wc.start (x : Cx) (hn : x.nums.length = x.n) (e0 : Env) : Wc x e0 [(e0, 0)] 0 := by
  unfold Wc; rw [Cx.cntP, Cx.cntP, Cx.P_rem x hn]; simp
theorem Cx.remP_next (x : Cx) {k t : Nat} {p : Env} (hk : k < x.n) (ht : t < (x.ns k).length) : (x.remP k p t).length = (x.contP k p (x.ns k)[t]).length + (x.remP k p (t + 1)).length := by
  unfold Cx.remP
  rw [if_pos hk, if_pos hk, List.drop_eq_getElem_cons ht, List.flatMap_cons, List.length_append]
theorem Wc.push {x : Cx} (hn : x.nums.length = x.n) {e0 p q : Env} {t n : Nat} {L : List (Env × Nat)} (h : Wc x e0 (L ++ [(p, t)]) n) (hk : L.length < x.n) (ht : t < (x.ns L.length).length) (hs : x.st L.length (x.ns L.length)[t] p = some q) : Wc x e0 (L ++ [(p, t + 1)] ++ [(q, 0)]) (n + 1) := by
  unfold Wc at h ⊢
  rw [Cx.cntP_snoc] at h
  rw [Cx.cntP_snoc, Cx.cntP_snoc]
  simp only [Nat.zero_add, List.length_append, List.length_cons, List.length_nil] at h ⊢
  rw [Cx.remP_next x hk ht] at h
  have : x.contP L.length p (x.ns L.length)[t] = q :: x.remP (L.length + 1) q 0 := by unfold Cx.contP; rw [hs]; simp only; rw [Cx.P_rem x hn]
  rw [this, List.length_cons] at h
  omega
theorem Wc.less {x : Cx} {e0 : Env} {n n' : Nat} {L : List (Env × Nat)} (h : Wc x e0 L n) (hn : n' ≤ n) : Wc x e0 L n' := by unfold Wc at h ⊢; omega
theorem Wc.skip {x : Cx} {e0 p : Env} {t n : Nat} {L : List (Env × Nat)} (h : Wc x e0 (L ++ [(p, t)]) n) (hk : L.length < x.n) (ht : t < (x.ns L.length).length) : Wc x e0 (L ++ [(p, t + 1)]) n := by
  unfold Wc at h ⊢
  rw [Cx.cntP_snoc] at h ⊢
  simp only [Nat.zero_add] at h ⊢
  rw [Cx.remP_next x hk ht] at h
  omega
theorem Wc.drop {x : Cx} {e0 p : Env} {t n : Nat} {L : List (Env × Nat)} (h : Wc x e0 (L ++ [(p, t)]) n) : Wc x e0 L n := by
  unfold Wc at h ⊢
  rw [Cx.cntP_snoc] at h
  omega
theorem Wc.most {x : Cx} {e0 p q : Env} {t n : Nat} {L : List (Env × Nat)} (h : Wc x e0 (L ++ [(p, t)]) n) (hk : L.length < x.n) (ht : t < (x.ns L.length).length) (hs : x.st L.length (x.ns L.length)[t] p = some q) : n < (x.P 0 e0).length := by
  unfold Wc at h
  rw [Cx.cntP_snoc] at h
  simp only [Nat.zero_add] at h
  rw [Cx.remP_next x hk ht] at h
  have : x.contP L.length p (x.ns L.length)[t] = q :: x.P (L.length + 1) q := by unfold Cx.contP; rw [hs]
  rw [this, List.length_cons] at h
  omega
end Ml
end Go.Proofs.YtpdmmmdkpipmkaaGreatDoor

/-
  Numbers in digits: no blanks, and numbers are told apart. No program in this text.
-/
namespace Go.Proofs.YtpdmmmdkpipmkaaGreatDoor
namespace Ml
open Lib (itoa decDigits)
def dig (n : Nat) : UInt8 := UInt8.ofNat (48 + n)
theorem decD_rec (u : Nat) (h : 10 ≤ u) : decDigits u = decDigits (u / 10) ++ [UInt8.ofNat (48 + u % 10)] := by
  rw [decDigits, dif_neg (by omega)]
theorem decD_small (u : Nat) (h : u < 10) : decDigits u = [UInt8.ofNat (48 + u)] := by
  rw [decDigits, dif_pos h]
theorem dig_val {n : Nat} (h : n < 10) : (UInt8.ofNat (48 + n)).toNat = 48 + n := by
  simp; omega
theorem decD_digits (u : Nat) : ∀ c ∈ decDigits u, 48 ≤ c.toNat ∧ c.toNat ≤ 57 := by
  induction u using Nat.strongRecOn with
  | _ u ih =>
    by_cases h : u < 10
    · rw [decD_small u h]
      intro c hc
      rw [List.mem_singleton] at hc; subst hc
      rw [dig_val h]; omega
    · rw [decD_rec u (by omega)]
      intro c hc
      rcases List.mem_append.1 hc with hc | hc
      · exact ih (u / 10) (by omega) c hc
      · rw [List.mem_singleton] at hc; subst hc
        rw [dig_val (Nat.mod_lt _ (by decide))]; omega
theorem decD_ne (u : Nat) : decDigits u ≠ [] := by
  by_cases h : u < 10
  · rw [decD_small u h]; simp
  · rw [decD_rec u (by omega)]; simp
theorem decD_inj (u : Nat) : ∀ v, decDigits u = decDigits v → u = v := by
  induction u using Nat.strongRecOn with
  | _ u ih =>
    intro v he
    by_cases hu : u < 10
    · rw [decD_small u hu] at he
      by_cases hv : v < 10
      · rw [decD_small v hv] at he
        have := congrArg (fun l : List UInt8 => (l.headD 0).toNat) he
        simp only [List.headD_cons, dig_val hu, dig_val hv] at this
        omega
      · rw [decD_rec v (by omega)] at he
        have := congrArg List.length he
        have h2 : 0 < (decDigits (v / 10)).length := List.length_pos_iff.2 (decD_ne _)
        simp only [List.length_append, List.length_cons, List.length_nil] at this
        omega
    · rw [decD_rec u (by omega)] at he
      by_cases hv : v < 10
      · rw [decD_small v hv] at he
        have := congrArg List.length he
        have h2 : 0 < (decDigits (u / 10)).length := List.length_pos_iff.2 (decD_ne _)
        simp only [List.length_append, List.length_cons, List.length_nil] at this
        omega
      · rw [decD_rec v (by omega)] at he
        obtain ⟨h1, h2⟩ := List.append_inj' he rfl
        have h3 := ih (u / 10) (by omega) _ h1
        simp only [List.cons.injEq, and_true] at h2
        have h4 := congrArg UInt8.toNat h2
        rw [dig_val (Nat.mod_lt _ (by decide)), dig_val (Nat.mod_lt _ (by decide))] at h4
        omega
theorem dec_itoa : Dec itoa := by
  refine ⟨fun n h => ?_, fun m n h => ?_⟩
  · have h32 : (32 : UInt8).toNat = 32 := rfl
    unfold itoa at h
    split at h
    · rcases List.mem_cons.1 h with h | h
      · cases h
      · have := decD_digits _ _ h; omega
    · have := decD_digits _ _ h; omega
  · have h45 : (45 : UInt8).toNat = 45 := rfl
    have no : ∀ (x : Nat) (l : List UInt8), decDigits x ≠ 45 :: l := fun x l he => by
      have := decD_digits x 45 (by rw [he]; exact List.mem_cons_self ..)
      omega
    unfold itoa at h
    split at h
    · split at h
      · simp only [List.cons.injEq, true_and] at h
        have := decD_inj _ _ h; omega
      · exact absurd h.symm (no _ _)
    · split at h
      · exact absurd h (no _ _)
      · have := decD_inj _ _ h; omega
end Ml
end Go.Proofs.YtpdmmmdkpipmkaaGreatDoor

/-
  The mathematics of layer 13: rules rewritten so that each looks at its own place alone; their meaning is the same. No program in this text.
-/
namespace Go.Proofs.YtpdmmmdkpipmkaaGreatDoor
namespace Lc
open Mt (Env nul get val uni nm unis place lit name vals fact head bodyF body lits)
open Ck (bnd vars wv wl)

open Mt (Tx)
def eqT (a b : Tm) : Bool := (a.v == b.v) && Mt.eqK a.k b.k
theorem eqT_iff (a b : Tm) : eqT a b = true ↔ a = b := by
  obtain ⟨x, y⟩ := a; obtain ⟨x', y'⟩ := b
  simp [eqT, Mt.eqK_iff]
/-- a literal at another place than the rule's home -/
def rem (r : Ru) (y : Lt) : Bool := !eqT y.at_ t0 && !eqT y.at_ r.home
def noAt (y : Lt) : Lt := ⟨y.by_, y.pred, y.args, t0⟩
/-- variables as terms -/
def vts (l : List Tx) : List Tm := l.map fun v => ⟨v, k0⟩
def nms (i k : Nat) : Tx := Lib.decDigits i ++ (46 :: Lib.decDigits k)
def askN (i k : Nat) : Tx := 126 :: 97 :: 115 :: 107 :: nms i k
def tellN (i k : Nat) : Tx := 126 :: 116 :: 101 :: 108 :: 108 :: nms i k
def askR (i : Nat) (r : Ru) (k : Nat) (y : Lt) (L : List Lt) : Ru := ⟨r.home, askN i k, vts (bnd r k), y.at_, L⟩
def askL (i : Nat) (r : Ru) (k : Nat) : Lt := ⟨r.home, askN i k, vts (bnd r k), t0⟩
def tellR (i : Nat) (r : Ru) (k : Nat) (y : Lt) : Ru := ⟨y.at_, tellN i k, vts (bnd r (k + 1)), r.home, [askL i r k, noAt y]⟩
def tellL (i : Nat) (r : Ru) (k : Nat) (y : Lt) : Lt := ⟨y.at_, tellN i k, vts (bnd r (k + 1)), t0⟩
def lastR (r : Ru) (L : List Lt) : Ru := ⟨r.home, r.pred, r.args, r.to_, L⟩
/-- from literal k on, L being what was reached -/
def steps (i : Nat) (r : Ru) : Nat → List Lt → List Lt → List Ru
  | _, [], L => [lastR r L]
  | k, y :: ys, L => if rem r y = true then askR i r k y L :: tellR i r k y :: steps i r (k + 1) ys [tellL i r k y] else steps i r (k + 1) ys (L ++ [noAt y])
def one (i : Nat) (r : Ru) : List Ru := steps i r 0 r.body []
def rw : Nat → List Ru → List Ru
  | _, [] => []
  | i, r :: l => one i r ++ rw (i + 1) l
def relay (p : Tx) : Bool := match p with
  | [] => false
  | c :: _ => c == 126
def seen (l : List F) : List F := l.filter fun x => !relay x.pred

/-! names of relays are told apart -/
theorem nms_inj {i k i' k' : Nat} (h : nms i k = nms i' k') : i = i' ∧ k = k' := by
  have key : ∀ (a a' b b' : Tx), (∀ c ∈ a, c.toNat ≠ 46) → (∀ c ∈ a', c.toNat ≠ 46) → a ++ 46 :: b = a' ++ 46 :: b' → a = a' ∧ b = b' := by
    intro a
    induction a with
    | nil =>
      intro a' b b' _ h2 he
      cases a' with
      | nil => simpa using he
      | cons c t =>
        simp only [List.nil_append, List.cons_append, List.cons.injEq] at he
        exact absurd (by rw [← he.1]; rfl) (h2 c (List.mem_cons_self ..))
    | cons c t ih =>
      intro a' b b' h1 h2 he
      cases a' with
      | nil =>
        simp only [List.nil_append, List.cons_append, List.cons.injEq] at he
        exact absurd (by rw [he.1]; rfl) (h1 c (List.mem_cons_self ..))
      | cons c' t' =>
        simp only [List.cons_append, List.cons.injEq] at he
        obtain ⟨rfl, he⟩ := he
        obtain ⟨rfl, rfl⟩ := ih t' b b' (fun d hd => h1 d (List.mem_cons_of_mem _ hd)) (fun d hd => h2 d (List.mem_cons_of_mem _ hd)) he
        exact ⟨rfl, rfl⟩
  have nd : ∀ u, ∀ c ∈ Lib.decDigits u, c.toNat ≠ 46 := fun u c hc => by
    have := Ml.decD_digits u c hc
    omega
  obtain ⟨h1, h2⟩ := key _ _ _ _ (nd i) (nd i') h
  exact ⟨Ml.decD_inj _ _ h1, Ml.decD_inj _ _ h2⟩
theorem askN_inj {i k i' k' : Nat} (h : askN i k = askN i' k') : i = i' ∧ k = k' := by
  unfold askN at h
  simp only [List.cons.injEq, true_and] at h
  exact nms_inj h
theorem tellN_inj {i k i' k' : Nat} (h : tellN i k = tellN i' k') : i = i' ∧ k = k' := by
  unfold tellN at h
  simp only [List.cons.injEq, true_and] at h
  exact nms_inj h
theorem ask_tell {i k i' k' : Nat} : askN i k ≠ tellN i' k' := fun h => by
  unfold askN tellN at h
  simp only [List.cons.injEq, true_and] at h
  exact absurd h.1 (by decide)
theorem relay_ask (i k : Nat) : relay (askN i k) = true := rfl
theorem relay_tell (i k : Nat) : relay (tellN i k) = true := rfl

/-! what may be run -/
theorem nul_iff (t : Tm) : nul t = true ↔ t = t0 := by
  obtain ⟨v, a, b, c⟩ := t
  simp [nul, t0, k0, and_assoc]
theorem place_t0 (h : Tm) : place h t0 = h := by
  unfold place; rw [if_pos ((nul_iff _).2 rfl)]
theorem place_ne {h t : Tm} (hn : t ≠ t0) : place h t = t := by
  unfold place; rw [if_neg (fun hh => hn ((nul_iff _).1 hh))]
/-- what is wanted of a rule that may be run -/
structure Fine (r : Ru) : Prop where
  home : r.home ≠ t0
  pred : relay r.pred = false
  body : ∀ y ∈ r.body, relay y.pred = false
  at_ : ∀ k (h : k < r.body.length), r.body[k].at_.v ≠ [] → r.body[k].at_.v ∈ bnd r k
  args : ∀ t, (t ∈ r.args ∨ t = r.to_) → t.v ≠ [] → t.v ∈ vars r
end Lc
end Go.Proofs.YtpdmmmdkpipmkaaGreatDoor
