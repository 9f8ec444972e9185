/-
  The mathematics of layer 8, as the reference goes: a state that is tokens or an error; parts one behind the other. No program in this text.
-/
import Derived.Test.YtcjfdackhgaigaaDoorPb
namespace Go.Proofs.YtcjfdackhgaigaaDoor
namespace Ps
open Lx

abbrev St := Except (Nat × Int) (List Tok)
def run {α : Type} (s : St) (f : List Tok → Rz α) : Rz α :=
  match s with
  | .ok L => f L
  | .error x => .error x
def stO {α : Type} (r : Rz α) : St :=
  match r with
  | .ok (_, L) => .ok L
  | .error x => .error x
/-- a value that is the answer's, if there is one -/
def Is {α : Type} (r : Rz α) (v : α) : Prop := ∀ u L, r = .ok (u, L) → v = u
theorem Is.ok {α : Type} (v : α) (L : List Tok) : Is (.ok (v, L)) v := fun u M h => by cases h; rfl
theorem Is.err {α : Type} (x : Nat × Int) (v : α) : Is (.error x) v := fun u M h => by cases h
theorem run_bnd {α β : Type} (s : St) (p : List Tok → Rz α) (q : α → List Tok → Rz β) : run s (fun L => bnd (p L) q) = bnd (run s p) q := by cases s <;> rfl
theorem bnd_run {α β : Type} {r : Rz α} {v : α} (h : Is r v) (q : α → List Tok → Rz β) : bnd r q = run (stO r) (q v) := by
  rcases r with x | ⟨u, L⟩
  · rfl
  · rw [h u L rfl]; rfl
/-- one part more is read -/
theorem run_step {α β : Type} {s : St} {p : List Tok → Rz α} {v : α} (h : Is (run s p) v) (q : α → List Tok → Rz β) : run s (fun L => bnd (p L) q) = run (stO (run s p)) (q v) := by rw [run_bnd, bnd_run h]
theorem run_err {α : Type} (x : Nat × Int) (f : List Tok → Rz α) : run (.error x) f = .error x := rfl
theorem run_ok {α : Type} (L : List Tok) (f : List Tok → Rz α) : run (.ok L) f = f L := rfl
theorem stO_ret {α : Type} (s : St) (v : α) : stO (run s fun L => .ok (v, L)) = s := by cases s <;> rfl

def argsP (E n : Nat) (L : List Tok) : Rz (List Tm) := bnd (args E n L) fun ts L3 => bnd (need E 5 [41] L3) fun _ L4 => .ok (ts, L4)
def paren (E : Nat) (L : List Tok) : Rz (List Tm) := bnd (need E 5 [40] L) fun _ L2 => if isT 5 [41] (hd L2) = true then .ok ([], L2.tail) else argsP E 4 L2
def bodyP (E n : Nat) (L : List Tok) : Rz (List Lt) := bnd (body E n L) fun b L6 => bnd (need E 5 [46] L6) fun _ L7 => .ok (b, L7)
theorem atom_eq (E : Nat) (L : List Tok) : atom E L = bnd (word E L) fun p L1 => bnd (paren E L1) fun ts L2 => .ok ((p, ts), L2) := by
  unfold atom paren argsP
  rcases word E L with x | ⟨p, L1⟩
  · rfl
  rw [bnd_ok, bnd_ok]
  rcases need E 5 [40] L1 with x | ⟨_, L2⟩
  · rfl
  rw [bnd_ok, bnd_ok]
  by_cases h : isT 5 [41] (hd L2) = true
  · rw [if_pos h, if_pos h]; rfl
  rw [if_neg h, if_neg h]
  rcases args E 4 L2 with x | ⟨ts, L3⟩
  · rfl
  rw [bnd_ok, bnd_ok]
  rcases need E 5 [41] L3 with x | ⟨_, L4⟩
  · rfl
  · rfl
theorem argsP_zero (E : Nat) (L : List Tok) : argsP E 0 L = .error (many E L) := rfl
theorem two_signs {a b : List UInt8} {t : Tok} (hab : a ≠ b) (h1 : isT 5 a t = true) : ¬ isT 5 b t = true := fun h2 => by
  simp only [isT, Bool.and_eq_true, beq_iff_eq] at h1 h2
  exact hab (h1.2.symm.trans h2.2)
theorem need_yes {E : Nat} {k : Int} {s : List UInt8} {L : List Tok} (h : isT k s (hd L) = true) : need E k s L = .ok ((), L.tail) := by unfold need; rw [if_pos h]
theorem need_no {E : Nat} {k : Int} {s : List UInt8} {L : List Tok} (h : ¬ isT k s (hd L) = true) : need E k s L = .error (bad E L) := by unfold need; rw [if_neg h]
theorem argsP_succ (E n : Nat) (L : List Tok) : argsP E (n + 1) L = bnd (term E L) fun t L1 => if isT 5 [41] (hd L1) = true then .ok ([t], L1.tail) else bnd (need E 5 [44] L1) fun _ L2 => bnd (argsP E n L2) fun ts L3 => .ok (t :: ts, L3) := by
  unfold argsP
  rw [args]
  rcases term E L with x | ⟨t, L1⟩
  · rfl
  rw [bnd_ok, bnd_ok]
  by_cases h1 : isT 5 [41] (hd L1) = true
  · rw [if_pos h1, if_neg (two_signs (by decide) h1), bnd_ok, need_yes h1]; rfl
  rw [if_neg h1]
  by_cases h2 : isT 5 [44] (hd L1) = true
  · rw [if_pos h2, need_yes h2, bnd_ok]
    rcases args E n L1.tail with x | ⟨ts, L3⟩
    · rfl
    rw [bnd_ok, bnd_ok, bnd_ok]
    rcases need E 5 [41] L3 with x | ⟨_, L4⟩
    · rfl
    · rfl
  · rw [if_neg h2, need_no h2, bnd_ok, need_no h1]; rfl
theorem bodyP_zero (E : Nat) (L : List Tok) : bodyP E 0 L = .error (many E L) := rfl
theorem bodyP_succ (E n : Nat) (L : List Tok) : bodyP E (n + 1) L = bnd (lit E L) fun t L1 => if isT 5 [46] (hd L1) = true then .ok ([t], L1.tail) else bnd (need E 5 [44] L1) fun _ L2 => bnd (bodyP E n L2) fun ts L3 => .ok (t :: ts, L3) := by
  unfold bodyP
  rw [body]
  rcases lit E L with x | ⟨t, L1⟩
  · rfl
  rw [bnd_ok, bnd_ok]
  by_cases h1 : isT 5 [46] (hd L1) = true
  · rw [if_pos h1, if_neg (two_signs (by decide) h1), bnd_ok, need_yes h1]; rfl
  rw [if_neg h1]
  by_cases h2 : isT 5 [44] (hd L1) = true
  · rw [if_pos h2, need_yes h2, bnd_ok]
    rcases body E n L1.tail with x | ⟨ts, L3⟩
    · rfl
    rw [bnd_ok, bnd_ok, bnd_ok]
    rcases need E 5 [46] L3 with x | ⟨_, L4⟩
    · rfl
    · rfl
  · rw [if_neg h2, need_no h2, bnd_ok, need_no h1]; rfl
def saidR (L : List Tok) : Bool := isT 1 says (hd L.tail) || !((hd L).kind == 1)
def byR (E : Nat) (L : List Tok) : Rz Tm := if saidR L = true then bnd (term E L) fun t L1 => bnd (need E 1 says L1) fun _ L2 => .ok (t, L2) else .ok (t0, L)
theorem lit_eq (E : Nat) (L : List Tok) : lit E L = bnd (byR E L) fun b L1 => bnd (word E L1) fun p L2 => bnd (paren E L2) fun ts L3 => bnd (opt E at_ L3) fun a L4 => .ok (⟨b, p, ts, a⟩, L4) := by
  have rest : ∀ (b : Tm) (L1 : List Tok), (bnd (atom E L1) fun p L2 => bnd (opt E at_ L2) fun a L3 => .ok ((⟨b, p.1, p.2, a⟩ : Lt), L3)) = bnd (word E L1) fun p L2 => bnd (paren E L2) fun ts L3 => bnd (opt E at_ L3) fun a L4 => .ok (⟨b, p, ts, a⟩, L4) := fun b L1 => by
    rw [atom_eq]
    rcases word E L1 with x | ⟨p, L2⟩
    · rfl
    rw [bnd_ok, bnd_ok]
    rcases paren E L2 with x | ⟨ts, L3⟩
    · rfl
    · rfl
  unfold lit
  by_cases hk : (hd L).kind = 1
  · by_cases hs : isT 1 says (hd L.tail) = true
    · have e1 : said L = true := by unfold said; rw [hs]; simp
      have e2 : saidR L = true := by unfold saidR; rw [hs]; rfl
      unfold by_ byR
      rw [if_pos e1, if_pos e2]
      rcases term E L with x | ⟨t, L1⟩
      · rfl
      rw [bnd_ok]
      rcases need E 1 says L1 with x | ⟨_, L2⟩
      · rfl
      rw [bnd_ok, bnd_ok, bnd_ok, rest]
    · have e2 : ¬ saidR L = true := by
        unfold saidR
        simp only [Bool.or_eq_true, hk]
        simp [hs]
      unfold byR
      rw [if_neg e2, bnd_ok]
      by_cases hw : mayW (hd L) = true
      · have e1 : ¬ said L = true := by unfold said; simp [hw, hs]
        unfold by_
        rw [if_neg e1, bnd_ok, rest]
      · have e1 : said L = true := by unfold said; simp [hw]
        have ht : ¬ mayT (hd L) = true := by
          unfold mayT; rw [hk]; simpa using hw
        unfold by_ word term
        rw [if_pos e1, if_neg ht, if_neg hw]; rfl
  · have e2 : saidR L = true := by unfold saidR; simp [hk]
    have hw : mayW (hd L) = false := by unfold mayW; simp [hk]
    have e1 : said L = true := by unfold said; rw [hw]; rfl
    unfold by_ byR
    rw [if_pos e1, if_pos e2]
    rcases term E L with x | ⟨t, L1⟩
    · rfl
    rw [bnd_ok]
    rcases need E 1 says L1 with x | ⟨_, L2⟩
    · rfl
    rw [bnd_ok, bnd_ok, bnd_ok, rest]
theorem rule_eq (E : Nat) (L : List Tok) : rule E L = bnd (term E L) fun h L1 => bnd (need E 5 [58] L1) fun _ L2 => bnd (word E L2) fun p L3 => bnd (paren E L3) fun ts L4 => bnd (opt E to L4) fun t L5 => bnd (need E 5 [58, 45] L5) fun _ L6 => bnd (bodyP E 4 L6) fun b L7 => .ok (⟨h, p, ts, t, b⟩, L7) := by
  unfold rule bodyP
  rcases term E L with x | ⟨h, L1⟩
  · rfl
  rw [bnd_ok, bnd_ok]
  rcases need E 5 [58] L1 with x | ⟨_, L2⟩
  · rfl
  rw [bnd_ok, bnd_ok, atom_eq]
  rcases word E L2 with x | ⟨p, L3⟩
  · rfl
  rw [bnd_ok, bnd_ok]
  rcases paren E L3 with x | ⟨ts, L4⟩
  · rfl
  rw [bnd_ok, bnd_ok, bnd_ok]
  rcases opt E to L4 with x | ⟨t, L5⟩
  · rfl
  rw [bnd_ok, bnd_ok]
  rcases need E 5 [58, 45] L5 with x | ⟨_, L6⟩
  · rfl
  rw [bnd_ok, bnd_ok]
  rcases body E 4 L6 with x | ⟨b, L7⟩
  · rfl
  rw [bnd_ok, bnd_ok]
  rcases need E 5 [46] L7 with x | ⟨_, L8⟩
  · rfl
  · rfl

/-- no sign is a kept word -/
def Fit (L : List Tok) : Prop := ∀ t ∈ L, t.kind = 5 → kept t.text = false
theorem Fit.tail {L : List Tok} (h : Fit L) : Fit L.tail := fun t ht => h t (List.mem_of_mem_tail ht)
theorem Fit.pre {L L1 : List Tok} (h : Fit L) (p : Pre L L1) : Fit L1 := fun t ht => h t (p.mem ht)
theorem one_fit {l : List UInt8} {i e : Nat} {t : Tok} (h : one l i = some (t, e)) (hk : t.kind = 5) : kept t.text = false := by
  unfold one at h
  split at h
  · cases h
  unfold oneC at h
  split at h
  · cases h; simp at hk
  split at h
  · cases h; simp at hk
  split at h
  · unfold number at h
    rw [Option.map_eq_some_iff] at h
    obtain ⟨v, hv, he⟩ := h
    cases he; simp at hk
  split at h
  · unfold quote at h
    split at h
    · cases h; simp at hk
    · cases h
  · unfold sign at h
    split at h
    · cases h; exact (by decide : kept [58, 45] = false)
    split at h
    · cases h
      simp [kept, says, to, at_]
    · cases h
theorem tks_fit {l : List UInt8} : ∀ (M : List Tok) (i : Nat), tks l i = .ok M → Fit M
  | [], _, _ => fun t ht => by simp at ht
  | u :: R, i, h => by
    obtain ⟨hi, e, ho, hn⟩ := tks_inv h
    intro t ht
    rcases List.mem_cons.1 ht with rfl | ht
    · exact one_fit ho
    · exact tks_fit R _ hn t ht
theorem ans_fit {l : List UInt8} {L : List Tok} (h : ans l = .ok L) : Fit L := by
  unfold ans at h
  split at h
  · cases h
  · exact tks_fit L _ h
end Ps
end Go.Proofs.YtcjfdackhgaigaaDoor
