/-
  The mathematics of layer 4: constants, facts, their order (told by numbers), lists in order each once. No memory, no program.
-/
import Derived.Lib.Bytealg
import Derived.Lib.Small
import Derived.Laws.Strings
import Derived.Test.YtpdmmmdkpipmkaaGreatDoorQMc
namespace Go.Proofs.YtpdmmmdkpipmkaaGreatDoor
open Go
structure Pre {α: Type} (c: α → α → Int): Prop where
 anti: ∀ x y,c x y = - c y x
 trans: ∀ x y z,c x y ≤ 0 → c y z ≤ 0 → c x z ≤ 0
 low: ∀ x y,-1 ≤ c x y
 high: ∀ x y,c x y ≤ 1
def lex2 (a b: Int): Int:= if a = 0 then b else a
theorem lex2_zero {a b: Int}: lex2 a b = 0 ↔ a = 0 ∧ b = 0:= by
 unfold lex2;split <;> omega
theorem Pre.refl {α: Type} {c: α → α → Int} (h: Pre c) (x: α): c x x = 0:= by have:= h.anti x x;omega
theorem Pre.lt_of_lt_of_le {α: Type} {c: α → α → Int} (h: Pre c) {x y z: α} (h1: c x y < 0) (h2: c y z ≤ 0): c x z < 0:= by
 have:= h.trans x y z (by omega) h2
 rcases Int.lt_or_eq_of_le this with h3 | h3
 ·exact h3
 ·have:= h.anti x z
  have:= h.trans y z x h2 (by omega)
  have:= h.anti x y
  omega
theorem Pre.lt_of_le_of_lt {α: Type} {c: α → α → Int} (h: Pre c) {x y z: α} (h1: c x y ≤ 0) (h2: c y z < 0): c x z < 0:= by
 have:= h.trans x y z h1 (by omega)
 rcases Int.lt_or_eq_of_le this with h3 | h3
 ·exact h3
 ·have:= h.anti x z
  have:= h.trans z x y (by omega) h1
  have:= h.anti y z
  omega
theorem Pre.on {α β: Type} {c: α → α → Int} (h: Pre c) (p: β → α): Pre fun x y => c (p x) (p y):=
 ⟨fun _ _ => h.anti _ _,fun _ _ _ => h.trans _ _ _,fun _ _ => h.low _ _,fun _ _ => h.high _ _⟩
theorem Pre.lex {α: Type} {c d: α → α → Int} (h: Pre c) (k: Pre d): Pre fun x y => lex2 (c x y) (d x y) where
 anti x y:= by
  have:= h.anti x y;have:= k.anti x y
  unfold lex2;split <;> split <;> omega
 low x y:= by
  have:= h.low x y;have:= k.low x y
  unfold lex2;split <;> omega
 high x y:= by
  have:= h.high x y;have:= k.high x y
  unfold lex2;split <;> omega
 trans x y z h1 h2:= by
  have a1:= h.anti x y;have a2:= h.anti y z;have a3:= h.anti x z
  have t1:= h.trans x y z;have t2:= h.trans z x y;have t3:= h.trans y z x;have t4:= k.trans x y z
  revert h1 h2
  simp only [lex2]
  intro h1 h2
  split at h1 <;> split at h2 <;> split <;> omega
def cL {α: Type} (c: α → α → Int): List α → List α → Int
 | [],[] => 0
 | [],_:: _ => -1
 | _:: _,[] => 1
 | x:: xs,y:: ys => lex2 (c x y) (cL c xs ys)
theorem Pre.list {α: Type} {c: α → α → Int} (h: Pre c): Pre (cL c) where
 anti x y:= by
  induction x generalizing y with
  | nil => cases y <;> simp [cL]
  | cons a x ih =>
   cases y with
   | nil => simp [cL]
   | cons b y =>
    have:= h.anti a b;have:= ih y
    simp only [cL,lex2];split <;> split <;> omega
 low x y:= by
  induction x generalizing y with
  | nil => cases y <;> simp [cL]
  | cons a x ih =>
   cases y with
   | nil => simp [cL]
   | cons b y =>
    have:= h.low a b;have:= ih y
    simp only [cL,lex2];split <;> omega
 high x y:= by
  induction x generalizing y with
  | nil => cases y <;> simp [cL]
  | cons a x ih =>
   cases y with
   | nil => simp [cL]
   | cons b y =>
    have:= h.high a b;have:= ih y
    simp only [cL,lex2];split <;> omega
 trans x y z:= by
  induction x generalizing y z with
  | nil => cases y <;> cases z <;> simp [cL]
  | cons a x ih =>
   cases y with
   | nil => cases z <;> simp [cL]
   | cons b y =>
    cases z with
    | nil => simp [cL]
    | cons d z =>
     have t0:= ih y z
     have a1:= h.anti a b;have a2:= h.anti b d;have a3:= h.anti a d
     have t1:= h.trans a b d;have t2:= h.trans d a b;have t3:= h.trans b d a
     simp only [cL,lex2]
     intro h1 h2
     split at h1 <;> split at h2 <;> split <;> omega
theorem cL_zero {α: Type} {c: α → α → Int} (h: ∀ x y,c x y = 0 ↔ x = y) (x y: List α): cL c x y = 0 ↔ x = y:= by
 induction x generalizing y with
 | nil => cases y <;> simp [cL]
 | cons a x ih =>
  cases y with
  | nil => simp [cL]
  | cons b y => simp only [cL,lex2_zero,h,ih,List.cons.injEq]
theorem cL_at {α: Type} (c: α → α → Int) (x y: List α): ∀ k,k ≤ x.length → k ≤ y.length → (∀ j (hx: j < x.length) (hy: j < y.length),j < k → c x[j] y[j] = 0) → cL c x y = cL c (x.drop k) (y.drop k):= by
 intro k
 induction k generalizing x y with
 | zero => intro _ _ _;simp
 | succ k ih =>
  intro hx hy h
  cases x with
  | nil => simp at hx
  | cons a x =>
   cases y with
   | nil => simp at hy
   | cons b y =>
    have h0:= h 0 (by simp) (by simp) (by omega)
    simp only [List.getElem_cons_zero] at h0
    simp only [cL,lex2,h0,if_true,List.drop_succ_cons]
    exact ih x y (by simpa using hx) (by simpa using hy) fun j hjx hjy hj => by
     have:= h (j + 1) (by simp;omega) (by simp;omega) (by omega)
     simpa using this
theorem cL_hit {α: Type} (c: α → α → Int) (x y: List α) (k: Nat) (hx: k < x.length) (hy: k < y.length) (h: ∀ j (hx: j < x.length) (hy: j < y.length),j < k → c x[j] y[j] = 0) (hn: c x[k] y[k] ≠ 0): cL c x y = c x[k] y[k]:= by
 rw [cL_at c x y k (by omega) (by omega) h,List.drop_eq_getElem_cons hx,List.drop_eq_getElem_cons hy]
 simp only [cL,lex2,if_neg hn]
theorem cL_long {α: Type} (c: α → α → Int) (x y: List α) (hl: y.length < x.length) (h: ∀ j (hx: j < x.length) (hy: j < y.length),c x[j] y[j] = 0): cL c x y = 1:= by
 rw [cL_at c x y y.length (by omega) (by omega) fun j a b _ => h j a b,List.drop_eq_getElem_cons hl,List.drop_length]
 simp [cL]
theorem cL_short {α: Type} (c: α → α → Int) (x y: List α) (hl: x.length < y.length) (h: ∀ j (hx: j < x.length) (hy: j < y.length),c x[j] y[j] = 0): cL c x y = -1:= by
 rw [cL_at c x y x.length (by omega) (by omega) fun j a b _ => h j a b,List.drop_eq_getElem_cons hl,List.drop_length]
 simp [cL]
theorem cL_even {α: Type} (c: α → α → Int) (x y: List α) (hl: x.length = y.length) (h: ∀ j (hx: j < x.length) (hy: j < y.length),c x[j] y[j] = 0): cL c x y = 0:= by
 rw [cL_at c x y x.length (by omega) (by omega) fun j a b _ => h j a b,List.drop_length,hl,List.drop_length]
 simp [cL]
def cB (a b: UInt8): Int:= if a < b then -1 else if b < a then 1 else 0
theorem pre_cB: Pre cB where
 anti x y:= by
  simp only [cB,UInt8.lt_iff_toNat_lt]
  split <;> split <;> omega
 trans x y z h1 h2:= by
  simp only [cB,UInt8.lt_iff_toNat_lt] at *
  split at h1 <;> split at h2 <;> split <;> omega
 low x y:= by simp only [cB];split <;> (try split) <;> omega
 high x y:= by simp only [cB];split <;> (try split) <;> omega
theorem cB_zero (x y: UInt8): cB x y = 0 ↔ x = y:= by
 simp only [cB,UInt8.lt_iff_toNat_lt,← UInt8.toNat_inj]
 split <;> (try split) <;> omega
theorem compareBytes_cL: ∀ a b: List UInt8,Lib.compareBytes a b = cL cB a b
 | [],[] => rfl
 | [],_:: _ => rfl
 | _:: _,[] => rfl
 | a:: as,b:: bs => by
  have:= compareBytes_cL as bs
  simp only [Lib.compareBytes,cL,lex2,cB,UInt8.lt_iff_toNat_lt,this]
  split <;> (try split) <;> (try split) <;> omega
abbrev cT (a b: List UInt8): Int:= Lib.compareBytes a b
theorem pre_cT: Pre cT:= by
 have: cT = cL cB:= by funext a b;exact compareBytes_cL a b
 rw [this];exact pre_cB.list
theorem cT_zero (a b: List UInt8): cT a b = 0 ↔ a = b:= by
 rw [show cT a b = cL cB a b from compareBytes_cL a b];exact cL_zero cB_zero a b
theorem bytesLess_cT: ∀ a b: List UInt8,Op.bytesLess a b = decide (cT a b < 0)
 | [],[] => rfl
 | [],_:: _ => rfl
 | _:: _,[] => rfl
 | a:: as,b:: bs => by
  have:= bytesLess_cT as bs
  simp only [Op.bytesLess,cT,Lib.compareBytes] at *
  rw [this]
  by_cases h1: a < b
  ·simp [h1]
  ·by_cases h2: b < a
   ·have: (a == b) = false:= by
     simp only [beq_eq_false_iff_ne,ne_eq,← UInt8.toNat_inj];rw [UInt8.lt_iff_toNat_lt] at h2;omega
    simp [h1,h2,this]
   ·have: (a == b) = true:= by
     simp only [beq_iff_eq,← UInt8.toNat_inj];rw [UInt8.lt_iff_toNat_lt] at h1 h2;omega
    simp [h1,h2,this]
def cNum (x y: Bool): Int:= if x = y then 0 else if x then -1 else 1
theorem pre_cNum: Pre cNum where
 anti x y:= by cases x <;> cases y <;> decide
 trans x y z:= by cases x <;> cases y <;> cases z <;> decide
 low x y:= by cases x <;> cases y <;> decide
 high x y:= by cases x <;> cases y <;> decide
theorem pre_cInt: Pre Lib.compareInt where
 anti x y:= by unfold Lib.compareInt;repeat' split
               all_goals omega
 trans x y z:= by unfold Lib.compareInt;repeat' split
                  all_goals omega
 low x y:= by unfold Lib.compareInt;split <;> (try split) <;> omega
 high x y:= by unfold Lib.compareInt;split <;> (try split) <;> omega
def cK (x y: K): Int:= lex2 (cNum x.num y.num) (lex2 (Lib.compareInt x.n y.n) (cT x.s y.s))
theorem pre_cK: Pre cK:= (pre_cNum.on K.num).lex ((pre_cInt.on K.n).lex (pre_cT.on K.s))
theorem cK_zero (x y: K): cK x y = 0 ↔ x = y:= by
 obtain ⟨a,b,c⟩:= x;obtain ⟨a',b',c'⟩:= y
 simp only [cK,lex2_zero,cT_zero,K.mk.injEq]
 have h1: cNum a a' = 0 ↔ a = a':= by cases a <;> cases a' <;> decide
 have h2: Lib.compareInt b b' = 0 ↔ b = b':= by unfold Lib.compareInt;split <;> (try split) <;> omega
 rw [h1,h2]
def cF (x y: F): Int:= lex2 (cT x.at_ y.at_) (lex2 (cT x.by_ y.by_) (lex2 (cT x.pred y.pred) (cL cK x.ks y.ks)))
theorem pre_cF: Pre cF:= (pre_cT.on F.at_).lex ((pre_cT.on F.by_).lex ((pre_cT.on F.pred).lex (pre_cK.list.on F.ks)))
theorem cF_zero (x y: F): cF x y = 0 ↔ x = y:= by
 obtain ⟨a,b,c,d⟩:= x;obtain ⟨a',b',c',d'⟩:= y
 simp only [cF,lex2_zero,cT_zero,cL_zero cK_zero,F.mk.injEq]
theorem cF_self (x: F): cF x x = 0:= pre_cF.refl x
abbrev SS (l: List F): Prop:= l.Pairwise fun x y => cF x y < 0
theorem SS.uniq: ∀ {l m: List F},SS l → SS m → (∀ x,x ∈ l ↔ x ∈ m) → l = m
 | [],[],_,_,_ => rfl
 | [],b:: m,_,_,h => by have:= (h b).2 (by simp);simp at this
 | a:: l,[],_,_,h => by have:= (h a).1 (by simp);simp at this
 | a:: l,b:: m,h1,h2,h => by
  obtain ⟨ha,hl⟩:= List.pairwise_cons.1 h1
  obtain ⟨hb,hm⟩:= List.pairwise_cons.1 h2
  have hab: a = b:= by
   have h3:= (h a).1 (by simp)
   have h4:= (h b).2 (by simp)
   rcases List.mem_cons.1 h3 with h3 | h3
   ·exact h3
   ·rcases List.mem_cons.1 h4 with h4 | h4
    ·exact h4.symm
    ·have:= ha b h4;have:= hb a h3;have:= pre_cF.anti a b;omega
  subst hab
  congr 1
  refine SS.uniq hl hm fun x => ⟨fun hx => ?_,fun hx => ?_⟩
  ·rcases List.mem_cons.1 ((h x).1 (List.mem_cons_of_mem _ hx)) with rfl | h5
   ·have:= ha x hx;have:= cF_self x;omega
   ·exact h5
  ·rcases List.mem_cons.1 ((h x).2 (List.mem_cons_of_mem _ hx)) with rfl | h5
   ·have:= hb x hx;have:= cF_self x;omega
   ·exact h5
def ins: List F → F → List F
 | [],f => [f]
 | y:: ys,f => if cF y f < 0 then y:: ins ys f else if cF y f = 0 then y:: ys else f:: y:: ys
theorem mem_ins (l: List F) (f x: F): x ∈ ins l f ↔ x ∈ l ∨ x = f:= by
 induction l with
 | nil => simp [ins]
 | cons y ys ih =>
  simp only [ins]
  split
  ·simp only [List.mem_cons,ih,or_assoc]
  ·split
   ·rename_i h;rw [cF_zero] at h;subst h
    simp only [List.mem_cons]
    constructor
    ·intro h;exact .inl h
    ·rintro (h | h)
     ·exact h
     ·exact .inl h
   ·simp only [List.mem_cons]
    constructor
    ·rintro (h | h | h) <;> simp [h]
    ·rintro ((h | h) | h) <;> simp [h]
theorem SS_ins {l: List F} (h: SS l) (f: F): SS (ins l f):= by
 induction l with
 | nil => simp [ins]
 | cons y ys ih =>
  obtain ⟨hy,hys⟩:= List.pairwise_cons.1 h
  simp only [ins]
  split
  ·rename_i hlt
   refine List.pairwise_cons.2 ⟨fun x hx => ?_,ih hys⟩
   rcases (mem_ins ys f x).1 hx with h1 | rfl
   ·exact hy x h1
   ·exact hlt
  ·split
   ·exact h
   ·rename_i h1 h2
    have hf: cF f y < 0:= by have:= pre_cF.anti f y;omega
    refine List.pairwise_cons.2 ⟨fun x hx => ?_,h⟩
    rcases List.mem_cons.1 hx with rfl | hx
    ·exact hf
    ·exact pre_cF.lt_of_lt_of_le hf (Int.le_of_lt (hy x hx))
theorem ins_at (f: F): ∀ (l: List F) (k: Nat),k ≤ l.length → (∀ j (hj: j < l.length),j < k → cF l[j] f < 0) → (∀ hk: k < l.length,¬ cF l[k] f < 0) →
 ins l f = if h: k < l.length then (if cF l[k] f = 0 then l else l.take k ++ f:: l.drop k) else l.take k ++ f:: l.drop k
 | [],k,hk,_,_ => by simp [ins]
 | y:: ys,0,_,_,h => by
  have:= h (by simp)
  simp only [List.getElem_cons_zero] at this
  simp [ins,this]
 | y:: ys,k + 1,hk,h1,h2 => by
  have h0:= h1 0 (by simp) (by omega)
  simp only [List.getElem_cons_zero] at h0
  have:= ins_at f ys k (by simpa using hk) (fun j hj hjk => h1 (j + 1) (by simpa using hj) (by omega)) (fun hk' => h2 (by simpa using hk'))
  simp only [ins,if_pos h0,this,List.length_cons,Nat.add_lt_add_iff_right,List.getElem_cons_succ]
  split
  ·split <;> simp
  ·simp
def sortF (l: List F): List F:= l.foldl ins []
theorem foldl_ins (l: List F): ∀ m: List F,SS m → SS (l.foldl ins m) ∧ ∀ x,x ∈ l.foldl ins m ↔ x ∈ m ∨ x ∈ l:= by
 induction l with
 | nil => intro m hm;simp [hm]
 | cons a l ih =>
  intro m hm
  obtain ⟨h1,h2⟩:= ih (ins m a) (SS_ins hm a)
  refine ⟨h1,fun x => ?_⟩
  rw [List.foldl_cons,h2,mem_ins,List.mem_cons,or_assoc]
theorem sortF_SS (l: List F): SS (sortF l):= (foldl_ins l [] List.Pairwise.nil).1
theorem mem_sortF (l: List F) (x: F): x ∈ sortF l ↔ x ∈ l:= by
 have:= (foldl_ins l [] List.Pairwise.nil).2 x
 simpa [sortF] using this
theorem sortF_of {l m: List F} (h: SS m) (hm: ∀ x,x ∈ m ↔ x ∈ l): m = sortF l:= h.uniq (sortF_SS l) fun x => by rw [hm,mem_sortF]
def hasF (b: List F) (x: F): Bool:= b.any fun y => decide (cF x y = 0)
theorem hasF_iff (b: List F) (x: F): hasF b x = true ↔ x ∈ b:= by
 simp only [hasF,List.any_eq_true,decide_eq_true_eq,cF_zero]
 constructor
 ·rintro ⟨y,hy,rfl⟩;exact hy
 ·exact fun h => ⟨x,h,rfl⟩
def kept {α: Type} (c: α → α → Int) (l: List α): Nat → List α
 | 0 => []
 | k + 1 => match l[k]? with
  | none => kept c l k
  | some x => match k with
   | 0 => [x]
   | j + 1 => match l[j]? with
    | none => kept c l k
    | some y => if c x y = 0 then kept c l k else kept c l k ++ [x]
theorem kept_one {α: Type} (c: α → α → Int) (l: List α) (h: 0 < l.length): kept c l 1 = [l[0]]:= by simp [kept,h]
theorem kept_dup {α: Type} (c: α → α → Int) (l: List α) (k: Nat) (h0: 0 < k) (h: k < l.length) (he: c l[k] l[k - 1] = 0): kept c l (k + 1) = kept c l k:= by
 obtain ⟨j,rfl⟩: ∃ j,k = j + 1:= ⟨k - 1,by omega⟩
 rw [kept]
 simp only [List.getElem?_eq_getElem h,List.getElem?_eq_getElem (show j < l.length by omega)]
 rw [if_pos (by simpa using he)]
theorem kept_new {α: Type} (c: α → α → Int) (l: List α) (k: Nat) (h0: 0 < k) (h: k < l.length) (he: c l[k] l[k - 1] ≠ 0): kept c l (k + 1) = kept c l k ++ [l[k]]:= by
 obtain ⟨j,rfl⟩: ∃ j,k = j + 1:= ⟨k - 1,by omega⟩
 rw [kept]
 simp only [List.getElem?_eq_getElem h,List.getElem?_eq_getElem (show j < l.length by omega)]
 rw [if_neg (by simpa using he)]
theorem kept_len {α: Type} (c: α → α → Int) (l: List α): ∀ k,k ≤ l.length → (kept c l k).length ≤ k
 | 0,_ => by simp [kept]
 | 1,h => by rw [kept_one c l (by omega)];simp
 | k + 2,h => by
  have:= kept_len c l (k + 1) (by omega)
  by_cases he: c l[k + 1] (l[k + 1 - 1]'(by omega)) = 0
  ·rw [kept_dup c l (k + 1) (by omega) (by omega) he];omega
  ·rw [kept_new c l (k + 1) (by omega) (by omega) he];simp;omega
theorem kept_all {α: Type} (c: α → α → Int) (l: List α): ∀ k,k ≤ l.length → (∀ j (h: j < l.length),0 < j → j < k → c l[j] (l[j - 1]'(by omega)) ≠ 0) → kept c l k = l.take k
 | 0,_,_ => by simp [kept]
 | 1,h,_ => by rw [kept_one c l (by omega),List.take_one,List.head?_eq_getElem?,List.getElem?_eq_getElem (by omega)];rfl
 | k + 2,h,hn => by
  rw [kept_new c l (k + 1) (by omega) (by omega) (hn (k + 1) (by omega) (by omega) (by omega)),kept_all c l (k + 1) (by omega) fun j hj h0 hk => hn j hj h0 (by omega)]
  exact (List.take_succ_eq_append_getElem (by omega)).symm
theorem kept_mem {α: Type} (c: α → α → Int) (l: List α): ∀ k,k ≤ l.length → ∀ x ∈ kept c l k,x ∈ l.take k
 | 0,_ => by simp [kept]
 | 1,h => by
  rw [kept_one c l (by omega)];intro x hx
  rw [List.mem_singleton] at hx;subst hx
  exact List.mem_take_iff_getElem.2 ⟨0,by omega,rfl⟩
 | k + 2,h => by
  have ih:= kept_mem c l (k + 1) (by omega)
  have up: ∀ x ∈ l.take (k + 1),x ∈ l.take (k + 2):= fun x hx => (List.take_prefix_take_left (Nat.le_succ (k + 1))).subset hx
  by_cases he: c l[k + 1] (l[k + 1 - 1]'(by omega)) = 0
  ·rw [kept_dup c l (k + 1) (by omega) (by omega) he];exact fun x hx => up x (ih x hx)
  ·rw [kept_new c l (k + 1) (by omega) (by omega) he]
   intro x hx
   rcases List.mem_append.1 hx with hx | hx
   ·exact up x (ih x hx)
   ·rw [List.mem_singleton] at hx;subst hx
    exact List.mem_take_iff_getElem.2 ⟨k + 1,by omega,rfl⟩
theorem kept_sorted {α: Type} (c: α → α → Int) (hc: Pre c) (l: List α) (hs: ∀ i j (hi: i < l.length) (hj: j < l.length),i < j → c l[i] l[j] ≤ 0): ∀ k,k ≤ l.length →
 (kept c l k).Pairwise (fun x y => c x y < 0) ∧ ∀ j (hj: j < l.length),j < k → ∃ x ∈ kept c l k,c x l[j] = 0
 | 0,_ => by simp [kept]
 | 1,h => by
  rw [kept_one c l (by omega)]
  refine ⟨by simp,fun j hj hk => ⟨l[0],by simp, ?_⟩⟩
  have: j = 0:= by omega
  subst this;exact hc.refl _
 | k + 2,h => by
  obtain ⟨h1,h2⟩:= kept_sorted c hc l hs (k + 1) (by omega)
  by_cases he: c l[k + 1] (l[k + 1 - 1]'(by omega)) = 0
  ·rw [kept_dup c l (k + 1) (by omega) (by omega) he]
   refine ⟨h1,fun j hj hk => ?_⟩
   by_cases hjk: j < k + 1
   ·exact h2 j hj hjk
   ·have: j = k + 1:= by omega
    subst this
    obtain ⟨x,hx,hx0⟩:= h2 k (by omega) (by omega)
    refine ⟨x,hx, ?_⟩
    simp only [Nat.add_sub_cancel] at he
    have a1:= hc.anti x l[k];have a2:= hc.anti l[k + 1] l[k];have a3:= hc.anti x l[k + 1]
    have:= hc.trans x l[k] l[k + 1] (by omega) (by omega)
    have:= hc.trans l[k + 1] l[k] x (by omega) (by omega)
    omega
  ·rw [kept_new c l (k + 1) (by omega) (by omega) he]
   have hlt: c l[k] l[k + 1] < 0:= by
    have:= hs k (k + 1) (by omega) (by omega) (by omega)
    have:= hc.anti l[k + 1] l[k]
    simp only [Nat.add_sub_cancel] at he
    omega
   refine ⟨List.pairwise_append.2 ⟨h1,by simp,fun x hx y hy => ?_⟩,fun j hj hk => ?_⟩
   ·rw [List.mem_singleton] at hy;subst hy
    obtain ⟨i,hi,rfl⟩:= List.mem_take_iff_getElem.1 (kept_mem c l (k + 1) (by omega) x hx)
    by_cases hik: i = k
    ·subst hik;exact hlt
    ·exact hc.lt_of_le_of_lt (hs i k (by omega) (by omega) (by omega)) hlt
   ·by_cases hjk: j < k + 1
    ·obtain ⟨x,hx,hx0⟩:= h2 j hj hjk
     exact ⟨x,List.mem_append_left _ hx,hx0⟩
    ·have: j = k + 1:= by omega
     subst this
     exact ⟨l[k + 1],by simp,hc.refl _⟩
end Go.Proofs.YtpdmmmdkpipmkaaGreatDoor
namespace Go.Proofs.YtpdmmmdkpipmkaaGreatDoor
namespace Ml
open Mt (Tx Env uni lit lits head nm val)
structure Wd where
 homes: List Tx
 names: List Tx
def Ins (w: Wd) (l: List Ru) (m: List F) (f: F): Prop:=
 ∃ r ∈ l,∃ h ∈ w.homes,∃ e,uni r.home (nm h) [] = some e ∧ ∃ fs,(∀ x ∈ fs,x ∈ m) ∧ ∃ e2,lits r.home r.body fs e = some e2 ∧ head r e2 = some f ∧ f.at_ ∈ w.names
def envs (home: Tm) (m: List F): List Lt → Env → List Env
 | [],e => [e]
 | l:: ls,e => m.flatMap fun f => match lit home l f e with
  | none => []
  | some e1 => envs home m ls e1
theorem mem_envs {home: Tm} {m: List F}: ∀ {ls: List Lt} {e e2: Env},e2 ∈ envs home m ls e ↔ ∃ fs,(∀ x ∈ fs,x ∈ m) ∧ lits home ls fs e = some e2
 | [],e,e2 => by
  rw [envs,List.mem_singleton]
  constructor
  ·rintro rfl;exact ⟨[],(fun _ h => by cases h),rfl⟩
  ·rintro ⟨fs,_,h⟩
   cases fs with
   | nil => rw [lits] at h;cases h;rfl
   | cons f fs => cases h
 | l:: ls,e,e2 => by
  rw [envs,List.mem_flatMap]
  constructor
  ·rintro ⟨f,hf,h⟩
   cases hl: lit home l f e with
   | none => rw [hl] at h;cases h
   | some e1 =>
    rw [hl] at h
    obtain ⟨fs,h1,h2⟩:= mem_envs.1 h
    refine ⟨f:: fs,fun x hx => ?_, ?_⟩
    ·rcases List.mem_cons.1 hx with rfl | hx
     ·exact hf
     ·exact h1 x hx
    ·rw [lits,hl];exact h2
  ·rintro ⟨fs,h1,h2⟩
   cases fs with
   | nil => cases h2
   | cons f fs =>
    rw [lits] at h2
    obtain ⟨e1,hl,h3⟩:= Option.bind_eq_some_iff.1 h2
    refine ⟨f,h1 f (List.mem_cons_self ..), ?_⟩
    rw [hl]
    exact mem_envs.2 ⟨fs,fun x hx => h1 x (List.mem_cons_of_mem _ hx),h3⟩
def hd (w: Wd) (r: Ru) (e: Env): List F:= match head r e with
 | none => []
 | some f => if f.at_ ∈ w.names then [f] else []
theorem mem_hd {w: Wd} {r: Ru} {e: Env} {f: F}: f ∈ hd w r e ↔ head r e = some f ∧ f.at_ ∈ w.names:= by
 unfold hd
 cases h: head r e with
 | none => simp
 | some g =>
  simp only [Option.some.injEq]
  split
  ·rename_i hg
   rw [List.mem_singleton]
   constructor
   ·rintro rfl;exact ⟨rfl,hg⟩
   ·rintro ⟨rfl,_⟩;rfl
  ·rename_i hg
   constructor
   ·intro h;cases h
   ·rintro ⟨rfl,h2⟩;exact absurd h2 hg
def heads (w: Wd) (r: Ru) (m: List F) (h: Tx): List F:= match uni r.home (nm h) [] with
 | none => []
 | some e => (envs r.home m r.body e).flatMap (hd w r)
def onceL (w: Wd) (l: List Ru) (m: List F): List F:= l.flatMap fun r => w.homes.flatMap fun h => heads w r m h
theorem mem_onceL {w: Wd} {l: List Ru} {m: List F} {f: F}: f ∈ onceL w l m ↔ Ins w l m f:= by
 unfold onceL Ins
 simp only [List.mem_flatMap]
 constructor
 ·rintro ⟨r,hr,h,hh,hf⟩
  unfold heads at hf
  cases hu: uni r.home (nm h) [] with
  | none => rw [hu] at hf;cases hf
  | some e =>
   rw [hu] at hf
   obtain ⟨e2,he2,hf⟩:= List.mem_flatMap.1 hf
   obtain ⟨fs,h1,h2⟩:= mem_envs.1 he2
   obtain ⟨h3,h4⟩:= mem_hd.1 hf
   exact ⟨r,hr,h,hh,e,hu,fs,h1,e2,h2,h3,h4⟩
 ·rintro ⟨r,hr,h,hh,e,hu,fs,h1,e2,h2,h3,h4⟩
  refine ⟨r,hr,h,hh, ?_⟩
  unfold heads
  rw [hu]
  exact List.mem_flatMap.2 ⟨e2,mem_envs.2 ⟨fs,h1,h2⟩,mem_hd.2 ⟨h3,h4⟩⟩
def once (w: Wd) (l: List Ru) (m: List F): List F:= sortF (onceL w l m)
theorem mem_once {w: Wd} {l: List Ru} {m: List F} {f: F}: f ∈ once w l m ↔ Ins w l m f:= by
 unfold once;rw [mem_sortF,mem_onceL]
theorem Ins.mono {w: Wd} {l l': List Ru} {m m': List F} {f: F} (h: Ins w l m f) (hl: ∀ r ∈ l,r ∈ l') (hm: ∀ x ∈ m,x ∈ m'): Ins w l' m' f:= by
 obtain ⟨r,hr,h,hh,e,hu,fs,h1,h2⟩:= h
 exact ⟨r,hl r hr,h,hh,e,hu,fs,fun x hx => hm x (h1 x hx),h2⟩
def Closed (w: Wd) (l: List Ru) (m: List F): Prop:= ∀ f,Ins w l m f → f ∈ m
def step (w: Wd) (l: List Ru) (m: List F): List F:= (once w l m).foldl ins m
theorem step_SS {w: Wd} {l: List Ru} {m: List F} (h: SS m): SS (step w l m):= (foldl_ins _ m h).1
theorem mem_step {w: Wd} {l: List Ru} {m: List F} (h: SS m) {x: F}: x ∈ step w l m ↔ x ∈ m ∨ Ins w l m x:= by
 unfold step;rw [(foldl_ins _ m h).2,mem_once]
theorem step_fix {w: Wd} {l: List Ru} {m: List F} (h: SS m): step w l m = m ↔ Closed w l m:= by
 constructor
 ·intro he f hf
  rw [← he];exact (mem_step h).2 (.inr hf)
 ·intro hc
  refine (step_SS h).uniq h fun x => ?_
  rw [mem_step h]
  exact ⟨fun hx => hx.elim id (hc x),.inl⟩
theorem SS.nodup {l: List F} (h: SS l): l.Nodup:= by
 refine List.Pairwise.imp (fun {a b} hab he => ?_) h
 subst he
 have:= cF_self a
 omega
theorem nodup_len: ∀ {l m: List F},l.Nodup → (∀ x ∈ l,x ∈ m) → l.length ≤ m.length
 | [],m,_,_ => Nat.zero_le _
 | a:: l,m,hn,hs => by
  letI: BEq F:= ⟨Mt.eqF⟩
  haveI: LawfulBEq F:= { eq_of_beq:= fun {x y} h => (Mt.eqF_iff x y).1 h,rfl:= fun {x} => (Mt.eqF_iff x x).2 rfl }
  have ha:= hs a (List.mem_cons_self ..)
  obtain ⟨hna,hnl⟩:= List.nodup_cons.1 hn
  have h1:= nodup_len (m:= m.erase a) hnl fun x hx => by
   have hne: x ≠ a:= fun e => hna (e ▸ hx)
   exact (List.mem_erase_of_ne hne).2 (hs x (List.mem_cons_of_mem _ hx))
  rw [List.length_erase_of_mem ha] at h1
  have h2: 0 < m.length:= List.length_pos_of_mem ha
  rw [List.length_cons];omega
theorem sub_len {l m: List F} (h: SS l) (hs: ∀ x ∈ l,x ∈ m): l.length ≤ m.length:= nodup_len (SS.nodup h) hs
theorem step_more {w: Wd} {l: List Ru} {m: List F} (h: SS m) (hn: step w l m ≠ m): m.length < (step w l m).length:= by
 rcases Nat.lt_or_ge m.length (step w l m).length with h1 | h1
 ·exact h1
 ·exfalso
  apply hn
  refine (step_SS h).uniq h fun x => ⟨fun hx => ?_,fun hx => (mem_step h).2 (.inl hx)⟩
  refine Classical.byContradiction fun hx' => ?_
  have h2:= nodup_len (l:= x:: m) (m:= step w l m) (List.nodup_cons.2 ⟨hx',SS.nodup h⟩) fun y hy => by
   rcases List.mem_cons.1 hy with rfl | hy
   ·exact hx
   ·exact (mem_step h).2 (.inl hy)
  rw [List.length_cons] at h2
  omega
theorem step_len_iff {w: Wd} {l: List Ru} {m: List F} (h: SS m): (step w l m).length = m.length ↔ step w l m = m:=
 ⟨fun he => Classical.byContradiction fun hn => by have:= step_more h hn;omega,fun he => by rw [he]⟩
def LstN (w: Wd) (l: List Ru): Nat → List F → Option (List F) → Prop
 | 0,m,o => (400 < m.length ∧ o = none) ∨ (m.length ≤ 400 ∧ step w l m = m ∧ o = some m)
 | n + 1,m,o => ((400 < m.length ∧ o = none) ∨ (m.length ≤ 400 ∧ step w l m = m ∧ o = some m)) ∨ (m.length ≤ 400 ∧ step w l m ≠ m ∧ LstN w l n (step w l m) o)
def Lst (w: Wd) (l: List Ru) (m: List F) (o: Option (List F)): Prop:= ∃ n,LstN w l n m o
theorem Lst.full {w: Wd} {l: List Ru} {m: List F} (h: 400 < m.length): Lst w l m none:= ⟨0,.inl ⟨h,rfl⟩⟩
theorem Lst.done {w: Wd} {l: List Ru} {m: List F} (h: m.length ≤ 400) (h2: step w l m = m): Lst w l m (some m):= ⟨0,.inr ⟨h,h2,rfl⟩⟩
theorem Lst.more {w: Wd} {l: List Ru} {m: List F} {o: Option (List F)} (h: m.length ≤ 400) (h2: step w l m ≠ m) (h3: Lst w l (step w l m) o): Lst w l m o:= by
 obtain ⟨n,hn⟩:= h3
 exact ⟨n + 1,.inr ⟨h,h2,hn⟩⟩
theorem Lst.ind {w: Wd} {l: List Ru} {motive: (m: List F) → (o: Option (List F)) → Lst w l m o → Prop}
 (full: ∀ {m: List F} (h: 400 < m.length),motive m none (Lst.full h))
 (done: ∀ {m: List F} (h: m.length ≤ 400) (h2: step w l m = m),motive m (some m) (Lst.done h h2))
 (more: ∀ {m: List F} {o: Option (List F)} (h: m.length ≤ 400) (h2: step w l m ≠ m) (h3: Lst w l (step w l m) o),motive (step w l m) o h3 → motive m o (Lst.more h h2 h3))
 {m: List F} {o: Option (List F)} (t: Lst w l m o): motive m o t:= by
 obtain ⟨n,hn⟩:= t
 induction n generalizing m o with
 | zero =>
  rcases hn with ⟨h1,rfl⟩ | ⟨h1,h2,rfl⟩
  ·exact full h1
  ·exact done h1 h2
 | succ n ih =>
  rcases hn with (⟨h1,rfl⟩ | ⟨h1,h2,rfl⟩) | ⟨h1,h2,h3⟩
  ·exact full h1
  ·exact done h1 h2
  ·exact more h1 h2 ⟨n,h3⟩ (ih h3)
theorem Lst.got {w: Wd} {l: List Ru} {m n: List F} (h: Lst w l m (some n)) (hs: SS m): SS n ∧ (∀ x ∈ m,x ∈ n) ∧ Closed w l n ∧ n.length ≤ 400:= by
 generalize ho: Option.some n = o at h
 induction h using Lst.ind with
 | full _ => cases ho
 | done h1 h2 => cases ho;exact ⟨hs,fun _ h => h,(step_fix hs).1 h2,h1⟩
 | more h1 h2 h3 ih =>
  obtain ⟨i1,i2,i3,i4⟩:= ih (step_SS hs) ho
  exact ⟨i1,fun x hx => i2 x ((mem_step hs).2 (.inl hx)),i3,i4⟩
theorem Lst.pred {w: Wd} {l: List Ru} {m n: List F} {P: F → Prop} (h: Lst w l m (some n)) (hs: SS m) (hm: ∀ x ∈ m,P x) (hp: ∀ m': List F,(∀ x ∈ m',P x) → ∀ f,Ins w l m' f → P f): ∀ x ∈ n,P x:= by
 generalize ho: Option.some n = o at h
 induction h using Lst.ind with
 | full _ => cases ho
 | done h1 h2 => cases ho;exact hm
 | more h1 h2 h3 ih =>
  refine ih (step_SS hs) (fun x hx => ?_) ho
  rcases (mem_step hs).1 hx with h | h
  ·exact hm x h
  ·exact hp _ hm x h
theorem Lst.least {w: Wd} {l: List Ru} {m n c: List F} (h: Lst w l m (some n)) (hs: SS m) (hm: ∀ x ∈ m,x ∈ c) (hc: Closed w l c): ∀ x ∈ n,x ∈ c:=
 h.pred hs hm fun _ hm' f hf => hc f (hf.mono (fun _ h => h) hm')
theorem lits_ext {home: Tm}: ∀ {ls: List Lt} {fs: List F} {e e2: Env},lits home ls fs e = some e2 → ∃ m,e2 = e ++ m
 | [],[],e,e2,h => by rw [lits] at h;cases h;exact ⟨[],by simp⟩
 | l:: ls,f:: fs,e,e2,h => by
  rw [lits] at h
  obtain ⟨e1,h1,h2⟩:= Option.bind_eq_some_iff.1 h
  obtain ⟨⟨m,rfl⟩,_⟩:= Mt.lit_has h1
  obtain ⟨m',rfl⟩:= lits_ext h2
  exact ⟨m ++ m',by simp⟩
 | [],f:: fs,e,e2,h => by cases h
 | l:: ls,[],e,e2,h => by cases h
theorem Ins.place {w: Wd} {l: List Ru} {m: List F} {f: F} (h: Ins w l m f): f.at_ ∈ w.names ∧ f.by_ ∈ w.homes:= by
 obtain ⟨r,_,h,hh,e,hu,fs,_,e2,h2,h3,h4⟩:= h
 refine ⟨h4, ?_⟩
 obtain ⟨mm,rfl⟩:= lits_ext h2
 have hv:= Mt.val_ext (Mt.uni_val hu).1 mm
 have hb:= (Mt.fact_parts (show Mt.fact (Mt.place r.home r.to_) r.home r.pred r.args (e ++ mm) = some f from h3)).2.1
 rw [hv] at hb
 have: h = f.by_:= Mt.nm_inj (Option.some.inj hb)
 rw [← this];exact hh
theorem names {w: Wd} {l: List Ru} {b n: List F} (h: Lst w l (sortF b) (some n)): ∀ x ∈ n,x ∈ b ∨ (x.at_ ∈ w.names ∧ x.by_ ∈ w.homes):=
 h.pred (sortF_SS _) (fun _ hx => .inl ((mem_sortF _ _).1 hx)) fun _ _ _ hf => .inr hf.place
end Ml
end Go.Proofs.YtpdmmmdkpipmkaaGreatDoor
namespace Go.Proofs.YtpdmmmdkpipmkaaGreatDoor
namespace Ml
open Mt (Tx Env uni lit lits head nm val)
structure Cn where
 done: Nat
 heavy: Bool
def bump (c: Cn): Cn:= ⟨c.done + 1,c.heavy || decide (60000 < c.done + 1)⟩
structure Cn.Ok (c: Cn): Prop where
 most: c.done ≤ 60001
 light: c.heavy = false → c.done ≤ 60000
theorem Cn.Ok.bump {c: Cn} (h: c.Ok) (hl: c.heavy = false): (bump c).Ok:= by
 have:= h.light hl
 refine ⟨by show c.done + 1 ≤ 60001;omega,fun hb => ?_⟩
 have h2: (c.heavy || decide (60000 < c.done + 1)) = false:= hb
 rw [hl,Bool.false_or,decide_eq_false_iff_not] at h2
 show c.done + 1 ≤ 60000;omega
def one (home: Tm) (l: Lt) (e: Env) (further: Env → Cn × List F → Cn × List F) (st: Cn × List F) (f: F): Cn × List F:=
 if st.1.heavy = true then st else match lit home l f e with
  | none => (bump st.1,st.2)
  | some e1 => further e1 (bump st.1,st.2)
def frm (w: Wd) (r: Ru) (m: List F): List Lt → Env → Cn × List F → Cn × List F
 | [],e,st => (st.1,(hd w r e).foldl ins st.2)
 | l:: ls,e,st => m.foldl (one r.home l e (frm w r m ls)) st
theorem one_stop {home: Tm} {l: Lt} {e: Env} {g: Env → Cn × List F → Cn × List F} {st: Cn × List F} (h: st.1.heavy = true) (f: F): one home l e g st f = st:= by
 unfold one;rw [if_pos h]
theorem fold_stop {home: Tm} {l: Lt} {e: Env} {g: Env → Cn × List F → Cn × List F}: ∀ (ms: List F) {st: Cn × List F},st.1.heavy = true → ms.foldl (one home l e g) st = st
 | [],st,_ => rfl
 | f:: ms,st,h => by rw [List.foldl_cons,one_stop h];exact fold_stop ms h
theorem frm_stop {w: Wd} {r: Ru} {m: List F}: ∀ (ls: List Lt) (e: Env) {st: Cn × List F},st.1.heavy = true → (frm w r m ls e st).1 = st.1
 | [],_,_,_ => rfl
 | l:: ls,e,st,h => by rw [frm,fold_stop m h]
theorem frm_ok {w: Wd} {r: Ru} {m: List F}: ∀ (ls: List Lt) (e: Env) {st: Cn × List F},st.1.Ok → (frm w r m ls e st).1.Ok
 | [],_,_,h => h
 | l:: ls,e,st,h => by
  rw [frm]
  suffices ∀ (ms: List F) (st: Cn × List F),st.1.Ok → (ms.foldl (one r.home l e (frm w r m ls)) st).1.Ok from this m st h
  intro ms
  induction ms with
  | nil => exact fun _ h => h
  | cons f ms ih =>
   intro st h
   rw [List.foldl_cons]
   refine ih _ ?_
   unfold one
   split
   ·exact h
   ·rename_i hh
    have hl: st.1.heavy = false:= by simpa using hh
    split
    ·exact h.bump hl
    ·exact frm_ok ls _ (h.bump hl)
theorem fold_heavy {home: Tm} {l: Lt} {e: Env} {g: Env → Cn × List F → Cn × List F} {ms: List F} {st: Cn × List F} (h: (ms.foldl (one home l e g) st).1.heavy = false): st.1.heavy = false:= by
 cases hs: st.1.heavy with
 | false => rfl
 | true => rw [fold_stop ms hs,hs] at h;cases h
theorem frm_heavy {w: Wd} {r: Ru} {m: List F} {ls: List Lt} {e: Env} {st: Cn × List F} (h: (frm w r m ls e st).1.heavy = false): st.1.heavy = false:= by
 cases hs: st.1.heavy with
 | false => rfl
 | true => rw [frm_stop ls e hs,hs] at h;cases h
theorem frm_light {w: Wd} {r: Ru} {m: List F}: ∀ (ls: List Lt) (e: Env) (st: Cn × List F),(frm w r m ls e st).1.heavy = false → (frm w r m ls e st).2 = ((envs r.home m ls e).flatMap (hd w r)).foldl ins st.2
 | [],e,st,_ => by rw [frm,envs];simp
 | l:: ls,e,st,h => by
  rw [frm] at h ⊢
  rw [envs]
  suffices ∀ (ms: List F) (st: Cn × List F),(ms.foldl (one r.home l e (frm w r m ls)) st).1.heavy = false → (ms.foldl (one r.home l e (frm w r m ls)) st).2 = ((ms.flatMap fun f => match lit r.home l f e with
   | none => []
   | some e1 => envs r.home m ls e1).flatMap (hd w r)).foldl ins st.2 from this m st h
  intro ms
  induction ms with
  | nil => exact fun _ _ => rfl
  | cons f ms ih =>
   intro st h
   rw [List.foldl_cons] at h ⊢
   rw [ih _ h,List.flatMap_cons,List.flatMap_append,List.foldl_append]
   congr 1
   have h1:= fold_heavy h
   have h0: st.1.heavy = false:= by
    cases hs: st.1.heavy with
    | false => rfl
    | true => rw [one_stop hs,hs] at h1;cases h1
   unfold one at h1 ⊢
   rw [if_neg (by rw [h0];decide)] at h1 ⊢
   cases hl: lit r.home l f e with
   | none => rfl
   | some e1 =>
    rw [hl] at h1
    exact frm_light ls e1 _ h1
def byHome (w: Wd) (r: Ru) (m: List F) (st: Cn × List F) (h: Tx): Cn × List F:= match uni r.home (nm h) [] with
 | none => st
 | some e => frm w r m r.body e st
def byRule (w: Wd) (m: List F) (st: Cn × List F) (r: Ru): Cn × List F:= w.homes.foldl (byHome w r m) st
def onceR (w: Wd) (l: List Ru) (m: List F) (c: Cn): Cn × List F:= l.foldl (byRule w m) (c,[])
theorem byHome_ok {w: Wd} {r: Ru} {m: List F} {st: Cn × List F} (h: st.1.Ok) (x: Tx): (byHome w r m st x).1.Ok:= by
 unfold byHome
 split
 ·exact h
 ·exact frm_ok _ _ h
theorem homes_ok {w: Wd} {r: Ru} {m: List F}: ∀ (hs: List Tx) {st: Cn × List F},st.1.Ok → (hs.foldl (byHome w r m) st).1.Ok
 | [],_,h => h
 | x:: hs,_,h => by rw [List.foldl_cons];exact homes_ok hs (byHome_ok h x)
theorem rules_ok {w: Wd} {m: List F}: ∀ (l: List Ru) {st: Cn × List F},st.1.Ok → (l.foldl (byRule w m) st).1.Ok
 | [],_,h => h
 | r:: l,_,h => by rw [List.foldl_cons];exact rules_ok l (homes_ok _ h)
theorem byHome_heavy {w: Wd} {r: Ru} {m: List F} {st: Cn × List F} {x: Tx} (h: (byHome w r m st x).1.heavy = false): st.1.heavy = false ∧ (byHome w r m st x).2 = (heads w r m x).foldl ins st.2:= by
 unfold byHome at h ⊢
 unfold heads
 cases hu: uni r.home (nm x) [] with
 | none => rw [hu] at h;exact ⟨h,rfl⟩
 | some e => rw [hu] at h;exact ⟨frm_heavy h,frm_light _ _ _ h⟩
theorem homes_light {w: Wd} {r: Ru} {m: List F}: ∀ (hs: List Tx) {st: Cn × List F},(hs.foldl (byHome w r m) st).1.heavy = false → st.1.heavy = false ∧ (hs.foldl (byHome w r m) st).2 = (hs.flatMap fun h => heads w r m h).foldl ins st.2
 | [],_,h => ⟨h,rfl⟩
 | x:: hs,st,h => by
  rw [List.foldl_cons] at h ⊢
  obtain ⟨h1,h2⟩:= homes_light hs h
  obtain ⟨h3,h4⟩:= byHome_heavy h1
  exact ⟨h3,by rw [h2,h4,List.flatMap_cons,List.foldl_append]⟩
theorem rules_light {w: Wd} {m: List F}: ∀ (l: List Ru) {st: Cn × List F},(l.foldl (byRule w m) st).1.heavy = false → st.1.heavy = false ∧ (l.foldl (byRule w m) st).2 = (onceL w l m).foldl ins st.2
 | [],_,h => ⟨h,rfl⟩
 | r:: l,st,h => by
  rw [List.foldl_cons] at h ⊢
  obtain ⟨h1,h2⟩:= rules_light l h
  obtain ⟨h3,h4⟩:= homes_light w.homes h1
  refine ⟨h3, ?_⟩
  rw [h2]
  show (onceL w l m).foldl ins (w.homes.foldl (byHome w r m) st).2 = _
  rw [h4]
  unfold onceL
  rw [List.flatMap_cons,List.foldl_append]
theorem onceR_light {w: Wd} {l: List Ru} {m: List F} {c: Cn} (h: (onceR w l m c).1.heavy = false): c.heavy = false ∧ (onceR w l m c).2 = once w l m:= by
 obtain ⟨h1,h2⟩:= rules_light l h
 exact ⟨h1,by unfold onceR once sortF;exact h2⟩
theorem onceR_ok {w: Wd} {l: List Ru} {m: List F} {c: Cn} (h: c.Ok): (onceR w l m c).1.Ok:= rules_ok l h
def LstRN (w: Wd) (l: List Ru): Nat → List F → Cn → Option (List F) → Cn → Prop
 | 0,m,c,o,c2 => (c.heavy = true ∧ o = some [] ∧ c2 = c) ∨ (c.heavy = false ∧ 400 < m.length ∧ o = none ∧ c2 = c) ∨ (c.heavy = false ∧ m.length ≤ 400 ∧ ((onceR w l m c).2.foldl ins m).length = m.length ∧ o = some m ∧ c2 = (onceR w l m c).1)
 | n + 1,m,c,o,c2 => ((c.heavy = true ∧ o = some [] ∧ c2 = c) ∨ (c.heavy = false ∧ 400 < m.length ∧ o = none ∧ c2 = c) ∨ (c.heavy = false ∧ m.length ≤ 400 ∧ ((onceR w l m c).2.foldl ins m).length = m.length ∧ o = some m ∧ c2 = (onceR w l m c).1)) ∨
     (c.heavy = false ∧ m.length ≤ 400 ∧ ((onceR w l m c).2.foldl ins m).length ≠ m.length ∧ LstRN w l n ((onceR w l m c).2.foldl ins m) (onceR w l m c).1 o c2)
def LstR (w: Wd) (l: List Ru) (m: List F) (c: Cn) (o: Option (List F)) (c2: Cn): Prop:= ∃ n,LstRN w l n m c o c2
theorem LstR.heavy {w: Wd} {l: List Ru} {m: List F} {c: Cn} (h: c.heavy = true): LstR w l m c (some []) c:= ⟨0,.inl ⟨h,rfl,rfl⟩⟩
theorem LstR.full {w: Wd} {l: List Ru} {m: List F} {c: Cn} (h: c.heavy = false) (h2: 400 < m.length): LstR w l m c none c:= ⟨0,.inr (.inl ⟨h,h2,rfl,rfl⟩)⟩
theorem LstR.done {w: Wd} {l: List Ru} {m: List F} {c: Cn} (h: c.heavy = false) (h2: m.length ≤ 400) (h3: ((onceR w l m c).2.foldl ins m).length = m.length): LstR w l m c (some m) (onceR w l m c).1:= ⟨0,.inr (.inr ⟨h,h2,h3,rfl,rfl⟩)⟩
theorem LstR.more {w: Wd} {l: List Ru} {m: List F} {c c2: Cn} {o: Option (List F)} (h: c.heavy = false) (h2: m.length ≤ 400) (h3: ((onceR w l m c).2.foldl ins m).length ≠ m.length) (h4: LstR w l ((onceR w l m c).2.foldl ins m) (onceR w l m c).1 o c2): LstR w l m c o c2:= by
 obtain ⟨n,hn⟩:= h4
 exact ⟨n + 1,.inr ⟨h,h2,h3,hn⟩⟩
theorem LstR.ind {w: Wd} {l: List Ru} {motive: (m: List F) → (c: Cn) → (o: Option (List F)) → (c2: Cn) → LstR w l m c o c2 → Prop}
 (heavy: ∀ {m: List F} {c: Cn} (h: c.heavy = true),motive m c (some []) c (LstR.heavy h))
 (full: ∀ {m: List F} {c: Cn} (h: c.heavy = false) (h2: 400 < m.length),motive m c none c (LstR.full h h2))
 (done: ∀ {m: List F} {c: Cn} (h: c.heavy = false) (h2: m.length ≤ 400) (h3: ((onceR w l m c).2.foldl ins m).length = m.length),motive m c (some m) (onceR w l m c).1 (LstR.done h h2 h3))
 (more: ∀ {m: List F} {c c2: Cn} {o: Option (List F)} (h: c.heavy = false) (h2: m.length ≤ 400) (h3: ((onceR w l m c).2.foldl ins m).length ≠ m.length) (h4: LstR w l ((onceR w l m c).2.foldl ins m) (onceR w l m c).1 o c2),motive _ _ o c2 h4 → motive m c o c2 (LstR.more h h2 h3 h4))
 {m: List F} {c: Cn} {o: Option (List F)} {c2: Cn} (t: LstR w l m c o c2): motive m c o c2 t:= by
 obtain ⟨n,hn⟩:= t
 induction n generalizing m c o with
 | zero =>
  rcases hn with ⟨h1,rfl,rfl⟩ | ⟨h1,h2,rfl,rfl⟩ | ⟨h1,h2,h3,rfl,rfl⟩
  ·exact heavy h1
  ·exact full h1 h2
  ·exact done h1 h2 h3
 | succ n ih =>
  rcases hn with (⟨h1,rfl,rfl⟩ | ⟨h1,h2,rfl,rfl⟩ | ⟨h1,h2,h3,rfl,rfl⟩) | ⟨h1,h2,h3,h4⟩
  ·exact heavy h1
  ·exact full h1 h2
  ·exact done h1 h2 h3
  ·exact more h1 h2 h3 ⟨n,h4⟩ (ih h4)
theorem fold_more {m s: List F} (hs: SS m) (hn: (s.foldl ins m).length ≠ m.length): m.length < (s.foldl ins m).length:= by
 have:= sub_len hs (fun x hx => ((foldl_ins s m hs).2 x).2 (.inl hx))
 omega
end Ml
end Go.Proofs.YtpdmmmdkpipmkaaGreatDoor
namespace Go.Proofs.YtpdmmmdkpipmkaaGreatDoor
namespace Ml
open Mt (Tx Env uni lit lits head nm val)
def cr: List Lt → Nat
 | [] => 1
 | _:: _ => 0
theorem cr_le (ls: List Lt): cr ls ≤ 1:= by cases ls <;> simp [cr]
theorem hd_few (w: Wd) (r: Ru) (e: Env): (hd w r e).length ≤ 1:= by
 unfold hd
 split
 ·simp
 ·split <;> simp
theorem hds_few (w: Wd) (r: Ru): ∀ es: List Env,(es.flatMap (hd w r)).length ≤ es.length
 | [] => by simp
 | e:: es => by rw [List.flatMap_cons,List.length_append,List.length_cons];have:= hds_few w r es;have:= hd_few w r e;omega
end Ml
end Go.Proofs.YtpdmmmdkpipmkaaGreatDoor
namespace Go.Proofs.YtpdmmmdkpipmkaaGreatDoor
namespace Ml
open Mt (Tx Env uni unis by1 lit lits head nm val get nul place vals name fact eqK eqK_iff)
theorem get_app (v: Tx) (e m: Env): get v (e ++ m) = (get v e).or (get v m):= by
 unfold Mt.get
 rw [List.find?_append]
 cases e.find? (fun b => b.1 == v) with
 | none => simp
 | some b => simp
theorem get_none {v: Tx} {e: Env}: get v e = none ↔ v ∉ e.map (·.1):= by
 unfold Mt.get
 rw [Option.map_eq_none_iff,List.find?_eq_none]
 simp only [List.mem_map,not_exists,not_and,beq_iff_eq]
theorem get_mem {v: Tx} {c: K} {e: Env} (h: get v e = some c): (v,c) ∈ e:= by
 unfold Mt.get at h
 obtain ⟨b,hb,rfl⟩:= Option.map_eq_some_iff.1 h
 have h1:= List.find?_some hb
 have h2:= List.mem_of_find?_eq_some hb
 simp only [beq_iff_eq] at h1
 subst h1
 exact h2
theorem get_filter {p: Tx × K → Bool} {v: Tx}: ∀ {e: Env},(∀ c,p (v,c) = true) → get v (e.filter p) = get v e
 | [],_ => rfl
 | b:: e,h => by
  unfold Mt.get
  rw [List.filter_cons]
  split
  ·rw [List.find?_cons,List.find?_cons]
   split
   ·rfl
   ·exact get_filter (e:= e) h
  ·rename_i hp
   rw [List.find?_cons]
   have: b.1 ≠ v:= fun he => hp (by have:= h b.2;rw [← he] at this;exact this)
   rw [show (b.1 == v) = false by simpa using this]
   exact get_filter (e:= e) h
def uniM (t: Tm) (c: K): Option K → Option Env
 | some v => if eqK v c = true then some [] else none
 | none => if nul t = true then none else some [(t.v,c)]
theorem uni_eq (t: Tm) (c: K) (e: Env): uni t c e = (uniM t c (val t e)).map (e ++ ·):= by
 unfold uni uniM
 cases val t e with
 | some v => simp only;split <;> simp
 | none => simp only;split <;> simp
theorem val_agree {t: Tm} {e p: Env} (h: get t.v p = get t.v e): val t p = val t e:= by
 unfold val;rw [h]
def Both (e p: Env) (x y: Option Env): Prop:= ∃ o: Option Env,x = o.map (e ++ ·) ∧ y = o.map (p ++ ·)
theorem Both.bind {e p: Env} {x y: Option Env} {f g: Env → Option Env} (h: Both e p x y) (hf: ∀ m,Both (e ++ m) (p ++ m) (f (e ++ m)) (g (p ++ m))): Both e p (x.bind f) (y.bind g):= by
 obtain ⟨o,rfl,rfl⟩:= h
 cases o with
 | none => exact ⟨none,rfl,rfl⟩
 | some m =>
  obtain ⟨o,h1,h2⟩:= hf m
  refine ⟨o.map (m ++ ·), ?_, ?_⟩
  ·show f (e ++ m) = _
   rw [h1];cases o <;> simp
  ·show g (p ++ m) = _
   rw [h2];cases o <;> simp
theorem Both.self (e p: Env): Both e p (some e) (some p):= ⟨some [],by simp,by simp⟩
theorem Both.none (e p: Env): Both e p none none:= ⟨Option.none,rfl,rfl⟩
def Agree (V: List Tx) (e p: Env): Prop:= ∀ v ∈ V,get v p = get v e
theorem Agree.app {V: List Tx} {e p: Env} (h: Agree V e p) (m: Env): Agree V (e ++ m) (p ++ m):= fun v hv => by rw [get_app,get_app,h v hv]
theorem Agree.sub {V U: List Tx} {e p: Env} (h: Agree V e p) (hu: ∀ v ∈ U,v ∈ V): Agree U e p:= fun v hv => h v (hu v hv)
theorem uni_both {t: Tm} {c: K} {e p: Env} (h: get t.v p = get t.v e): Both e p (uni t c e) (uni t c p):= ⟨uniM t c (val t e),uni_eq t c e,by rw [uni_eq,val_agree h]⟩
theorem unis_both: ∀ {ts: List Tm} {cs: List K} {e p: Env},Agree (ts.map (·.v)) e p → Both e p (unis ts cs e) (unis ts cs p)
 | [],[],e,p,_ => Both.self e p
 | t:: ts,c:: cs,e,p,h => by
  rw [unis,unis]
  refine (uni_both (h t.v (by simp))).bind fun m => ?_
  exact unis_both ((h.app m).sub fun v hv => List.mem_cons_of_mem _ hv)
 | [],c:: cs,e,p,_ => Both.none e p
 | t:: ts,[],e,p,_ => Both.none e p
def lvars (l: Lt): List Tx:= l.by_.v:: l.at_.v:: l.args.map (·.v)
theorem place_v (home t: Tm): (place home t).v = home.v ∨ (place home t).v = t.v:= by
 unfold place;split <;> simp
theorem place_in (home: Tm) (l: Lt): (place home l.at_).v ∈ home.v:: lvars l:= by
 rcases place_v home l.at_ with h | h <;> rw [h] <;> simp [lvars]
theorem lit_both {home: Tm} {l: Lt} {f: F} {e p: Env} (h: Agree (home.v:: lvars l) e p): Both e p (lit home l f e) (lit home l f p):= by
 unfold lit
 split
 ·refine (uni_both (h _ (place_in home l))).bind fun m => ?_
  refine Both.bind ?_ fun m' => ?_
  ·unfold by1
   split
   ·split
    ·exact Both.self _ _
    ·exact Both.none _ _
   ·exact uni_both ((h.app m) _ (by simp [lvars]))
  ·exact unis_both (((h.app m).app m').sub fun v hv => by simp only [lvars,List.mem_cons];exact .inr (.inr (.inr hv)))
 ·exact Both.none e p
theorem vals_agree {e p: Env}: ∀ {ts: List Tm},Agree (ts.map (·.v)) e p → vals p ts = vals e ts
 | [],_ => rfl
 | t:: ts,h => by
  rw [vals,vals,val_agree (h t.v (by simp)),vals_agree (h.sub fun v hv => List.mem_cons_of_mem _ hv)]
def hvars (r: Ru): List Tx:= r.home.v:: r.to_.v:: r.args.map (·.v)
theorem head_agree {r: Ru} {e p: Env} (h: Agree (hvars r) e p): head r p = head r e:= by
 have h1: val (place r.home r.to_) p = val (place r.home r.to_) e:= by
  refine val_agree (h _ ?_)
  rcases place_v r.home r.to_ with q | q <;> rw [q] <;> simp [hvars]
 have h2: val r.home p = val r.home e:= val_agree (h _ (by simp [hvars]))
 have h3: vals p r.args = vals e r.args:= vals_agree (h.sub fun v hv => by simp only [hvars,List.mem_cons];exact .inr (.inr hv))
 unfold head fact name
 rw [h1,h2,h3]
theorem val_isNone {t: Tm} {e p: Env} (h: e.map (·.1) = p.map (·.1)): val t e = none ↔ val t p = none:= by
 unfold val
 split
 ·simp
 ·split
  ·simp
  ·rw [get_none,get_none,h]
theorem uni_vars {t: Tm} {c d: K} {e p e1 p1: Env} (h: e.map (·.1) = p.map (·.1)) (he: uni t c e = some e1) (hp: uni t d p = some p1): e1.map (·.1) = p1.map (·.1):= by
 rw [uni_eq] at he hp
 have hn:= val_isNone (t:= t) h
 cases hv: val t e with
 | none =>
  rw [hv] at he;rw [hn.1 hv] at hp
  unfold uniM at he hp
  simp only at he hp
  split at he
  ·cases he
  ·rename_i hk
   rw [if_neg hk] at hp
   simp only [Option.map_some,Option.some.injEq] at he hp
   subst he hp
   simp [h]
 | some v =>
  cases hv': val t p with
  | none => rw [hn.2 hv'] at hv;cases hv
  | some v' =>
   rw [hv] at he;rw [hv'] at hp
   unfold uniM at he hp
   simp only at he hp
   split at he
   ·split at hp
    ·simp only [Option.map_some,Option.some.injEq,List.append_nil] at he hp
     subst he hp;exact h
    ·cases hp
   ·cases he
theorem unis_vars: ∀ {ts: List Tm} {cs ds: List K} {e p e1 p1: Env},e.map (·.1) = p.map (·.1) → unis ts cs e = some e1 → unis ts ds p = some p1 → e1.map (·.1) = p1.map (·.1)
 | [],[],[],e,p,e1,p1,h,he,hp => by cases he;cases hp;exact h
 | t:: ts,c:: cs,d:: ds,e,p,e1,p1,h,he,hp => by
  rw [unis] at he hp
  obtain ⟨e2,h1,h2⟩:= Option.bind_eq_some_iff.1 he
  obtain ⟨p2,h3,h4⟩:= Option.bind_eq_some_iff.1 hp
  exact unis_vars (uni_vars h h1 h3) h2 h4
 | [],c:: cs,_,e,p,e1,p1,_,he,_ => by cases he
 | [],[],d:: ds,e,p,e1,p1,_,_,hp => by cases hp
 | t:: ts,[],_,e,p,e1,p1,_,he,_ => by cases he
 | t:: ts,c:: cs,[],e,p,e1,p1,_,_,hp => by cases hp
theorem lit_vars {home: Tm} {l: Lt} {f g: F} {e p e1 p1: Env} (h: e.map (·.1) = p.map (·.1)) (he: lit home l f e = some e1) (hp: lit home l g p = some p1): e1.map (·.1) = p1.map (·.1):= by
 unfold lit at he hp
 split at he
 ·split at hp
  ·obtain ⟨e2,h1,he⟩:= Option.bind_eq_some_iff.1 he
   obtain ⟨e3,h2,h3⟩:= Option.bind_eq_some_iff.1 he
   obtain ⟨p2,i1,hp⟩:= Option.bind_eq_some_iff.1 hp
   obtain ⟨p3,i2,i3⟩:= Option.bind_eq_some_iff.1 hp
   have v2:= uni_vars h h1 i1
   refine unis_vars ?_ h3 i3
   unfold by1 at h2 i2
   split at h2
   ·rename_i hn
    rw [if_pos hn] at i2
    split at h2
    ·split at i2
     ·cases h2;cases i2;exact v2
     ·cases i2
    ·cases h2
   ·rename_i hn
    rw [if_neg hn] at i2
    exact uni_vars v2 h2 i2
  ·cases hp
 ·cases he
theorem uni_nodup {t: Tm} {c: K} {e e1: Env} (hn: (e.map (·.1)).Nodup) (h: uni t c e = some e1): (e1.map (·.1)).Nodup ∧ ∀ v ∈ e1.map (·.1),v ∈ e.map (·.1) ∨ v = t.v:= by
 rw [uni_eq] at h
 cases hv: val t e with
 | none =>
  rw [hv] at h
  unfold uniM at h
  simp only at h
  split at h
  ·cases h
  ·rename_i hk
   simp only [Option.map_some,Option.some.injEq] at h
   subst h
   have hg: get t.v e = none:= by
    unfold val at hv
    rw [if_neg hk] at hv
    split at hv
    ·cases hv
    ·exact hv
   have:= get_none.1 hg
   constructor
   ·rw [List.map_append,List.map_cons,List.map_nil,List.nodup_append]
    refine ⟨hn,by simp,fun a ha b hb => ?_⟩
    rw [List.mem_singleton] at hb
    subst hb
    exact fun he => this (by rw [← show a = t.v from he];exact ha)
   ·intro v hv
    rw [List.map_append,List.mem_append,List.map_cons,List.map_nil,List.mem_singleton] at hv
    exact hv
 | some v =>
  rw [hv] at h
  unfold uniM at h
  simp only at h
  split at h
  ·simp only [Option.map_some,Option.some.injEq,List.append_nil] at h
   subst h;exact ⟨hn,fun v hv => .inl hv⟩
  ·cases h
theorem unis_nodup: ∀ {ts: List Tm} {cs: List K} {e e1: Env},(e.map (·.1)).Nodup → unis ts cs e = some e1 → (e1.map (·.1)).Nodup ∧ ∀ v ∈ e1.map (·.1),v ∈ e.map (·.1) ∨ v ∈ ts.map (·.v)
 | [],[],e,e1,hn,h => by cases h;exact ⟨hn,fun v hv => .inl hv⟩
 | t:: ts,c:: cs,e,e1,hn,h => by
  rw [unis] at h
  obtain ⟨e2,h1,h2⟩:= Option.bind_eq_some_iff.1 h
  obtain ⟨n1,s1⟩:= uni_nodup hn h1
  obtain ⟨n2,s2⟩:= unis_nodup n1 h2
  refine ⟨n2,fun v hv => ?_⟩
  rcases s2 v hv with h | h
  ·rcases s1 v h with h | h
   ·exact .inl h
   ·exact .inr (by rw [h];simp)
  ·exact .inr (List.mem_cons_of_mem _ h)
 | [],c:: cs,e,e1,_,h => by cases h
 | t:: ts,[],e,e1,_,h => by cases h
theorem lit_nodup {home: Tm} {l: Lt} {f: F} {e e1: Env} (hn: (e.map (·.1)).Nodup) (h: lit home l f e = some e1): (e1.map (·.1)).Nodup ∧ ∀ v ∈ e1.map (·.1),v ∈ e.map (·.1) ∨ v = home.v ∨ v ∈ lvars l:= by
 unfold lit at h
 split at h
 ·obtain ⟨e2,h1,h⟩:= Option.bind_eq_some_iff.1 h
  obtain ⟨e3,h2,h3⟩:= Option.bind_eq_some_iff.1 h
  obtain ⟨n1,s1⟩:= uni_nodup hn h1
  have: (e3.map (·.1)).Nodup ∧ ∀ v ∈ e3.map (·.1),v ∈ e2.map (·.1) ∨ v = l.by_.v:= by
   unfold by1 at h2
   split at h2
   ·split at h2
    ·cases h2;exact ⟨n1,fun v hv => .inl hv⟩
    ·cases h2
   ·exact uni_nodup n1 h2
  obtain ⟨n2,s2⟩:= this
  obtain ⟨n3,s3⟩:= unis_nodup n2 h3
  refine ⟨n3,fun v hv => ?_⟩
  rcases s3 v hv with h | h
  ·rcases s2 v h with h | h
   ·rcases s1 v h with h | h
    ·exact .inl h
    ·have:= place_in home l
     rw [← h,List.mem_cons] at this
     exact .inr this
   ·exact .inr (.inr (by rw [h];simp [lvars]))
  ·exact .inr (.inr (by simp only [lvars,List.mem_cons];exact .inr (.inr h)))
 ·cases h
def Sub (e p: Env): Prop:= ∀ v c,get v e = some c → get v p = some c
theorem Sub.val {e p: Env} (h: Sub e p) {t: Tm} {c: K} (hv: val t e = some c): val t p = some c:= by
 unfold Mt.val at *
 split at hv
 ·cases hv
 ·rename_i h1
  rw [if_neg h1]
  split at hv
  ·rename_i h2;rw [if_pos h2];exact hv
  ·rename_i h2;rw [if_neg h2];exact h _ _ hv
theorem Sub.ext {e p: Env} (h: Sub e p) (m: Env): Sub e (p ++ m):= fun v c hv => by rw [get_app,h v c hv];rfl
theorem uni_weak {t: Tm} {c: K} {e p p1: Env} (h: Sub e p) (hp: uni t c p = some p1): ∃ e1,uni t c e = some e1 ∧ Sub e1 p1:= by
 obtain ⟨hv,m,rfl⟩:= Mt.uni_val hp
 cases hve: val t e with
 | some v =>
  have h1:= Mt.uni_only (h.val hve) hp
  rw [h1.1] at hve
  exact ⟨e,Mt.uni_fix hve,h.ext m⟩
 | none =>
  have hnul: ¬ nul t = true:= fun hn => by
   unfold Mt.val at hv;rw [if_pos hn] at hv;cases hv
  refine ⟨e ++ [(t.v,c)],by rw [uni_eq,hve];unfold uniM;simp only;rw [if_neg hnul];rfl,fun v c' hg => ?_⟩
  rw [get_app] at hg
  cases hge: get v e with
  | some c2 => rw [hge] at hg;cases hg;exact h.ext m v _ hge
  | none =>
   rw [hge,Option.none_or] at hg
   have:= get_mem hg
   rw [List.mem_singleton] at this
   cases this
   unfold Mt.val at hv hve
   rw [if_neg hnul] at hv hve
   split at hve
   ·cases hve
   ·rename_i h2;rw [if_neg h2] at hv;exact hv
theorem unis_weak: ∀ {ts: List Tm} {cs: List K} {e p p1: Env},Sub e p → unis ts cs p = some p1 → ∃ e1,unis ts cs e = some e1 ∧ Sub e1 p1
 | [],[],e,p,p1,h,hp => by cases hp;exact ⟨e,rfl,h⟩
 | t:: ts,c:: cs,e,p,p1,h,hp => by
  rw [unis] at hp
  obtain ⟨p2,h1,h2⟩:= Option.bind_eq_some_iff.1 hp
  obtain ⟨e2,h3,h4⟩:= uni_weak h h1
  obtain ⟨e1,h5,h6⟩:= unis_weak h4 h2
  exact ⟨e1,by rw [unis,h3];exact h5,h6⟩
 | [],c:: cs,e,p,p1,_,hp => by cases hp
 | t:: ts,[],e,p,p1,_,hp => by cases hp
theorem lit_weak {home: Tm} {l: Lt} {f: F} {e p p1: Env} (h: Sub e p) (hp: lit home l f p = some p1): ∃ e1,lit home l f e = some e1 ∧ Sub e1 p1:= by
 unfold lit at hp ⊢
 split at hp
 ·rename_i hc
  rw [if_pos hc]
  obtain ⟨p2,h1,hp⟩:= Option.bind_eq_some_iff.1 hp
  obtain ⟨p3,h2,h3⟩:= Option.bind_eq_some_iff.1 hp
  obtain ⟨e2,i1,s1⟩:= uni_weak h h1
  have: ∃ e3,by1 l f e2 = some e3 ∧ Sub e3 p3:= by
   unfold by1 at h2 ⊢
   split at h2
   ·rename_i hn
    rw [if_pos hn]
    split at h2
    ·rename_i hb;rw [if_pos hb];cases h2;exact ⟨e2,rfl,s1⟩
    ·cases h2
   ·rename_i hn
    rw [if_neg hn]
    exact uni_weak s1 h2
  obtain ⟨e3,i2,s2⟩:= this
  obtain ⟨e1,i3,s3⟩:= unis_weak s2 h3
  exact ⟨e1,by rw [i1];simp only [Option.bind_some];rw [i2];exact i3,s3⟩
 ·cases hp
end Ml
end Go.Proofs.YtpdmmmdkpipmkaaGreatDoor
namespace Go.Proofs.YtpdmmmdkpipmkaaGreatDoor
namespace Ml
open Mt (Tx Env uni unis by1 lit lits head nm val nul place vals name fact eqK eqK_iff)
structure Spn (r: Ru) (fs la: Tx → Nat): Prop where
 lit: ∀ (k: Nat) (l: Lt),r.body[k]? = some l → ∀ v ∈ lvars l,fs v ≤ k ∧ k ≤ la v
 head: ∀ v ∈ hvars r,r.body.length ≤ la v
theorem Spn.home {r: Ru} {fs la: Tx → Nat} (h: Spn r fs la): r.body.length ≤ la r.home.v:= h.head _ (by simp [hvars])
def kept (la: Tx → Nat) (k: Nat) (b: Tx × K): Bool:= !decide (la b.1 ≤ k)
def own (fs la: Tx → Nat) (k: Nat) (b: Tx × K): Bool:= decide (fs b.1 = k) && decide (la b.1 = k)
def stp (home: Tm) (la: Tx → Nat) (k: Nat) (l: Lt) (f: F) (p: Env): Option Env:= (lit home l f p).map fun e => e.filter (kept la k)
structure Pk (r: Ru) (fs la: Tx → Nat) (e0: Env) (k: Nat) (p: Env): Prop where
 nodup: (p.map (·.1)).Nodup
 sub: Sub e0 p
 old: ∀ v ∈ p.map (·.1),fs v < k ∨ r.body.length ≤ la v
structure E0 (r: Ru) (e0: Env): Prop where
 nodup: (e0.map (·.1)).Nodup
 home: ∀ v ∈ e0.map (·.1),v = r.home.v
theorem E0.of {r: Ru} {c: K} {e0: Env} (h: uni r.home c [] = some e0): E0 r e0:= by
 obtain ⟨h1,h2⟩:= uni_nodup (e:= []) (by simp) h
 exact ⟨h1,fun v hv => (h2 v hv).elim (fun h => by cases h) id⟩
theorem Pk.start {r: Ru} {fs la: Tx → Nat} {e0: Env} (hs: Spn r fs la) (h: E0 r e0): Pk r fs la e0 0 e0:=
 ⟨h.nodup,fun _ _ h => h,fun v hv => .inr (by rw [h.home v hv];exact hs.home)⟩
theorem get_vars {v: Tx} {c: K} {e: Env} (h: Mt.get v e = some c): v ∈ e.map (·.1):= List.mem_map.2 ⟨_,get_mem h,rfl⟩
theorem lit_ext {home: Tm} {l: Lt} {f: F} {p p1: Env} (h: lit home l f p = some p1): ∃ m,p1 = p ++ m:= (Mt.lit_has h).1
theorem Pk.step {r: Ru} {fs la: Tx → Nat} {e0 p p1: Env} {k: Nat} {l: Lt} {f: F} (hs: Spn r fs la) (h0: E0 r e0) (P: Pk r fs la e0 k p) (hk: r.body[k]? = some l) (h: lit r.home l f p = some p1): Pk r fs la e0 (k + 1) (p1.filter (kept la k)):= by
 obtain ⟨hn,hv⟩:= lit_nodup P.nodup h
 have hkn: k < r.body.length:= (List.getElem?_eq_some_iff.1 hk).1
 refine ⟨(List.Sublist.map _ List.filter_sublist).nodup hn,fun v c hg => ?_,fun v hw => ?_⟩
 ·rw [get_filter (fun c' => ?_)]
  ·obtain ⟨m,rfl⟩:= lit_ext h
   exact P.sub.ext m v c hg
  ·have h1:= h0.home v (get_vars hg)
   have h2:= hs.home
   subst h1
   unfold kept
   simp only [Bool.not_eq_true',decide_eq_false_iff_not]
   omega
 ·have hw': v ∈ p1.map (·.1):= by
   obtain ⟨b,hb,rfl⟩:= List.mem_map.1 hw
   exact List.mem_map_of_mem (f:= (·.1)) (List.mem_filter.1 hb).1
  rcases hv v hw' with h | h | h
  ·rcases P.old v h with h | h
   ·exact .inl (by omega)
   ·exact .inr h
  ·exact .inr (by rw [h];exact hs.home)
  ·exact .inl (by have:= (hs.lit k l hk v h).1;omega)
def Sim (la: Tx → Nat) (k: Nat) (e p: Env): Prop:= ∀ v,k ≤ la v → Mt.get v p = Mt.get v e
theorem Sim.agree {r: Ru} {fs la: Tx → Nat} {e p: Env} {k: Nat} {l: Lt} (hs: Spn r fs la) (hk: r.body[k]? = some l) (h: Sim la k e p): Agree (r.home.v:: lvars l) e p:= fun v hv => by
 rcases List.mem_cons.1 hv with rfl | hv
 ·exact h _ (by have:= hs.home;have:= (List.getElem?_eq_some_iff.1 hk).1;omega)
 ·exact h _ (hs.lit k l hk v hv).2
theorem Sim.step {la: Tx → Nat} {e p: Env} {k: Nat} (h: Sim la k e p) (m: Env): Sim la (k + 1) (e ++ m) ((p ++ m).filter (kept la k)):= fun v hv => by
 rw [get_filter (fun c => by unfold kept;simp only [Bool.not_eq_true',decide_eq_false_iff_not];omega),get_app,get_app,h v (by omega)]
theorem filter_same {q: Tx → Bool}: ∀ {e p: Env},e.map (·.1) = p.map (·.1) → (e.map (·.1)).Nodup → (∀ v,q v = true → Mt.get v e = Mt.get v p) → e.filter (fun b => q b.1) = p.filter (fun b => q b.1)
 | [],[],_,_,_ => rfl
 | [],b:: p,h,_,_ => by simp at h
 | b:: e,[],h,_,_ => by simp at h
 | (v,a):: e,(u,b):: p,h,hn,hg => by
  simp only [List.map_cons,List.cons.injEq] at h
  obtain ⟨rfl,h⟩:= h
  rw [List.map_cons,List.nodup_cons] at hn
  obtain ⟨hv,hn⟩:= hn
  have hv': v ∉ p.map (·.1):= by rw [← h];exact hv
  have ht: e.filter (fun b => q b.1) = p.filter (fun b => q b.1):= filter_same h hn fun u hu => by
   have:= hg u hu
   unfold Mt.get at this
   rw [List.find?_cons,List.find?_cons] at this
   by_cases huv: v = u
   ·subst huv
    rw [get_none.2 hv,get_none.2 hv']
   ·simp only [show (v == u) = false by simpa using huv] at this
    exact this
  rw [List.filter_cons,List.filter_cons]
  simp only
  split
  ·rename_i hq
   have:= hg v hq
   unfold Mt.get at this
   rw [List.find?_cons,List.find?_cons] at this
   simp at this
   rw [ht,this]
  ·exact ht
theorem val_pick {t: Tm} {c cf: K} {e1 e2 p1 e3: Env} {fs la: Tx → Nat} {k: Nat} (hq: e1.filter (fun b => !own fs la k b) = e2.filter (fun b => !own fs la k b))
 (hy: ∀ v c,fs v = k ∧ la v = k → Mt.get v e2 = some c → Mt.get v e3 = some c) (hn: ∀ v,¬(fs v = k ∧ la v = k) → Mt.get v e3 = Mt.get v p1)
 (h2: val t e2 = some c) (h1: val t e1 = some cf) (hp: val t p1 = some cf): val t e3 = some c:= by
 unfold Mt.val at h1 h2 hp ⊢
 split at h2
 ·cases h2
 ·rename_i hnul
  rw [if_neg hnul] at h1 hp ⊢
  split at h2
  ·rename_i hv;rw [if_pos hv];exact h2
  ·rename_i hv
   rw [if_neg hv] at h1 hp ⊢
   by_cases ho: fs t.v = k ∧ la t.v = k
   ·exact hy _ _ ho h2
   ·have hf: ∀ c': K,(!own fs la k (t.v,c')) = true:= fun c' => by
     unfold own
     simp only [Bool.not_eq_true',Bool.and_eq_false_iff,decide_eq_false_iff_not]
     by_cases h: fs t.v = k
     ·exact .inr fun h' => ho ⟨h,h'⟩
     ·exact .inl h
    have e1': Mt.get t.v e1 = Mt.get t.v e2:= by
     rw [← get_filter (p:= fun b => !own fs la k b) (e:= e1) hf,hq,get_filter (p:= fun b => !own fs la k b) hf]
    rw [e1',h2] at h1
    rw [hn _ ho,hp,h1]
theorem same_class {r: Ru} {fs la: Tx → Nat} {e0 p p1 e1 e2: Env} {k: Nat} {l: Lt} {f g: F} (P: Pk r fs la e0 k p) (hk: r.body[k]? = some l)
 (h1: lit r.home l f p = some p1) (h2: lit r.home l f e0 = some e1) (h3: lit r.home l g e0 = some e2) (hq: e1.filter (fun b => !own fs la k b) = e2.filter (fun b => !own fs la k b)):
 ∃ p2,lit r.home l g p = some p2 ∧ p1.filter (kept la k) = p2.filter (kept la k):= by
 have hkn: k < r.body.length:= (List.getElem?_eq_some_iff.1 hk).1
 obtain ⟨e3,he3⟩: ∃ e3,e3 = e2.filter (own fs la k) ++ p1.filter (fun b => !own fs la k b):= ⟨_,rfl⟩
 have hy: ∀ v c,fs v = k ∧ la v = k → Mt.get v e2 = some c → Mt.get v e3 = some c:= fun v c ho hg => by
  rw [he3,get_app,get_filter (fun c' => by unfold own;simp [ho]),hg];rfl
 have hn: ∀ v,¬(fs v = k ∧ la v = k) → Mt.get v e3 = Mt.get v p1:= fun v ho => by
  have hf: ∀ c': K,(!own fs la k (v,c')) = true:= fun c' => by
   unfold own
   simp only [Bool.not_eq_true',Bool.and_eq_false_iff,decide_eq_false_iff_not]
   by_cases h: fs v = k
   ·exact .inr fun h' => ho ⟨h,h'⟩
   ·exact .inl h
  rw [he3,get_app,get_filter (p:= fun b => !own fs la k b) hf,get_none.2,Option.none_or]
  intro hm
  obtain ⟨b,hb,rfl⟩:= List.mem_map.1 hm
  have:= (List.mem_filter.1 hb).2
  have h2:= hf b.2
  rw [show (b.1,b.2) = b from rfl,this] at h2
  cases h2
 have A:= (Mt.lit_has h3).2
 have B:= (Mt.lit_has h2).2
 have C:= (Mt.lit_has h1).2
 have H: Mt.Has r.home l g e3:= by
  refine ⟨A.pred,A.len,val_pick hq hy hn A.at_ B.at_ C.at_, ?_,fun i q1 q2 => ?_⟩
  ·have a:= A.by_;have b:= B.by_;have c:= C.by_
   split
   ·rename_i hb;rw [if_pos hb] at a;exact a
   ·rename_i hb;rw [if_neg hb] at a b c
    exact val_pick hq hy hn a b c
  ·have q3: i < f.ks.length:= by rw [← B.len];exact q1
   exact val_pick hq hy hn (A.args i q1 q2) (B.args i q1 q3) (C.args i q1 q3)
 have hsub: Sub p e3:= fun v c hg => by
  have ho: ¬(fs v = k ∧ la v = k):= fun ho => by
   rcases P.old v (get_vars hg) with h | h <;> omega
  rw [hn v ho]
  obtain ⟨m,rfl⟩:= lit_ext h1
  rw [get_app,hg];rfl
 obtain ⟨p2,hp2,hs2⟩:= lit_weak hsub (Mt.has_lit H)
 refine ⟨p2,hp2, ?_⟩
 have hv:= lit_vars (e:= p) (p:= p) rfl h1 hp2
 refine filter_same (q:= fun v => !decide (la v ≤ k)) hv (lit_nodup P.nodup h1).1 fun v hkv => ?_
 have ho: ¬(fs v = k ∧ la v = k):= fun ho => by
  simp only [Bool.not_eq_true',decide_eq_false_iff_not] at hkv
  omega
 cases hg: Mt.get v p2 with
 | none =>
  rw [get_none,hv,← get_none];exact hg
 | some c =>
  rw [← hn v ho];exact hs2 v c hg
structure Ch (home: Tm) (fs la: Tx → Nat) (e0: Env) (m: List F) (k: Nat) (l: Lt) (ns: List Nat): Prop where
 nodup: ns.Nodup
 lt: ∀ i ∈ ns,i < m.length
 all: ∀ f ∈ m,∀ e1,lit home l f e0 = some e1 → ∃ j ∈ ns,∃ g e2,m[j]? = some g ∧ lit home l g e0 = some e2 ∧ e1.filter (fun b => !own fs la k b) = e2.filter (fun b => !own fs la k b)
def Chs (home: Tm) (fs la: Tx → Nat) (e0: Env) (m: List F): Nat → List Lt → List (List Nat) → Prop
 | _,[],nss => nss = []
 | k,l:: ls,ns:: nss => Ch home fs la e0 m k l ns ∧ Chs home fs la e0 m (k + 1) ls nss
 | _,_:: _,[] => False
def Yw (home: Tm) (la: Tx → Nat) (m: List F): Nat → List Lt → List (List Nat) → Env → List Env
 | _,[],_,p => [p]
 | _,_:: _,[],_ => []
 | k,l:: ls,ns:: nss,p => ns.flatMap fun i => match m[i]?.bind fun f => stp home la k l f p with
  | none => []
  | some q => Yw home la m (k + 1) ls nss q
theorem drop_get {α: Type} {b ls: List α} {k: Nat} {l: α} (h: b.drop k = l:: ls): b[k]? = some l ∧ b.drop (k + 1) = ls:= by
 have h1: b[k]? = some l:= by rw [← List.head?_drop,h];rfl
 exact ⟨h1,by rw [← List.tail_drop,h];rfl⟩
theorem Yw_complete {r: Ru} {fs la: Tx → Nat} {e0: Env} {m: List F} (hs: Spn r fs la) (h0: E0 r e0): ∀ (ls: List Lt) (nss: List (List Nat)) (k: Nat) (e p: Env),k ≤ r.body.length → r.body.drop k = ls → Chs r.home fs la e0 m k ls nss → Pk r fs la e0 k p → Sim la k e p →
 ∀ e2 ∈ envs r.home m ls e,∃ p2 ∈ Yw r.home la m k ls nss p,Sim la r.body.length e2 p2
 | [],nss,k,e,p,hn,hd,_,_,S,e2,he => by
  rw [envs,List.mem_singleton] at he
  subst he
  have: r.body.length ≤ k:= by simpa using hd
  exact ⟨p,by rw [Yw];exact List.mem_singleton.2 rfl,fun v hv => by
   by_cases h: k ≤ la v
   ·exact S v h
   ·exfalso;omega⟩
 | l:: ls,[],k,e,p,_,_,hc,_,_,_,_ => by cases hc
 | l:: ls,ns:: nss,k,e,p,_,hd,hc,P,S,e2,he => by
  obtain ⟨hk,hd'⟩:= drop_get hd
  obtain ⟨c1,c2⟩:= hc
  rw [envs,List.mem_flatMap] at he
  obtain ⟨f,hf,he⟩:= he
  cases hl: lit r.home l f e with
  | none => rw [hl] at he;cases he
  | some e1 =>
   rw [hl] at he
   obtain ⟨o,ho1,ho2⟩:= lit_both (f:= f) (S.agree hs hk)
   rw [hl] at ho1
   cases o with
   | none => cases ho1
   | some mm =>
    simp only [Option.map_some,Option.some.injEq] at ho1 ho2
    subst ho1
    obtain ⟨e1',hw,_⟩:= lit_weak P.sub ho2
    obtain ⟨j,hj,g,e2',hg,hlg,hq⟩:= c1.all f hf e1' hw
    obtain ⟨p2,hp2,hflt⟩:= same_class P hk ho2 hw hlg hq
    obtain ⟨y,hy,hS⟩:= Yw_complete hs h0 ls nss (k + 1) (e ++ mm) ((p ++ mm).filter (kept la k)) (List.getElem?_eq_some_iff.1 hk).1 hd' c2 (P.step hs h0 hk ho2) (S.step mm) e2 he
    refine ⟨y, ?_,hS⟩
    rw [Yw,List.mem_flatMap]
    refine ⟨j,hj, ?_⟩
    rw [hg]
    simp only [Option.bind_some]
    unfold stp
    rw [hp2]
    simp only [Option.map_some]
    rw [← hflt];exact hy
theorem Yw_sound {r: Ru} {fs la: Tx → Nat} {e0: Env} {m: List F} (hs: Spn r fs la): ∀ (ls: List Lt) (nss: List (List Nat)) (k: Nat) (e p: Env),k ≤ r.body.length → r.body.drop k = ls → Sim la k e p →
 ∀ p2 ∈ Yw r.home la m k ls nss p,∃ e2 ∈ envs r.home m ls e,Sim la r.body.length e2 p2
 | [],nss,k,e,p,hn,hd,S,p2,hp => by
  rw [Yw,List.mem_singleton] at hp
  subst hp
  have: r.body.length ≤ k:= by simpa using hd
  exact ⟨e,by rw [envs];exact List.mem_singleton.2 rfl,fun v hv => by
   by_cases h: k ≤ la v
   ·exact S v h
   ·exfalso;omega⟩
 | l:: ls,[],k,e,p,_,_,_,p2,hp => by rw [Yw] at hp;cases hp
 | l:: ls,ns:: nss,k,e,p,_,hd,S,p2,hp => by
  obtain ⟨hk,hd'⟩:= drop_get hd
  rw [Yw,List.mem_flatMap] at hp
  obtain ⟨i,hi,hp⟩:= hp
  cases hm: m[i]? with
  | none => rw [hm] at hp;cases hp
  | some f =>
   rw [hm] at hp
   simp only [Option.bind_some] at hp
   obtain ⟨o,ho1,ho2⟩:= lit_both (f:= f) (S.agree hs hk)
   unfold stp at hp
   rw [ho2] at hp
   cases o with
   | none => cases hp
   | some mm =>
    simp only [Option.map_some] at hp ho1
    obtain ⟨e2,he2,hS⟩:= Yw_sound (e0:= e0) hs ls nss (k + 1) (e ++ mm) _ (List.getElem?_eq_some_iff.1 hk).1 hd' (S.step mm) p2 hp
    refine ⟨e2, ?_,hS⟩
    rw [envs,List.mem_flatMap]
    refine ⟨f,List.mem_of_getElem? hm, ?_⟩
    rw [ho1];exact he2
theorem flat_le {α β γ: Type} {g: α → List β} {h: α → List γ} (hl: ∀ x,(g x).length ≤ (h x).length): ∀ l: List α,(l.flatMap g).length ≤ (l.flatMap h).length
 | [] => by simp
 | x:: l => by rw [List.flatMap_cons,List.flatMap_cons,List.length_append,List.length_append];have:= hl x;have:= flat_le hl l;omega
theorem nodup_flat {β: Type} {g: Nat → List β}: ∀ {ns L: List Nat},ns.Nodup → (∀ i ∈ ns,i ∈ L) → (ns.flatMap g).length ≤ (L.flatMap g).length
 | [],L,_,_ => by simp
 | i:: ns,L,hn,hs => by
  obtain ⟨h1,h2⟩:= List.nodup_cons.1 hn
  have hi:= hs i (List.mem_cons_self ..)
  have h3:= nodup_flat (g:= g) (L:= L.erase i) h2 fun j hj => (List.mem_erase_of_ne (fun e: j = i => h1 (e ▸ hj))).2 (hs j (List.mem_cons_of_mem _ hj))
  rw [((List.perm_cons_erase hi).flatMap_right g).length_eq,List.flatMap_cons,List.flatMap_cons,List.length_append,List.length_append]
  omega
theorem range_flat {α β: Type} (g: Option α → List β): ∀ m: List α,(List.range m.length).flatMap (fun i => g m[i]?) = m.flatMap fun x => g (some x)
 | [] => rfl
 | a:: m => by
  rw [List.length_cons,List.range_succ_eq_map,List.flatMap_cons,List.flatMap_cons,List.flatMap_map]
  congr 1
  rw [← range_flat g m]
  rfl
theorem Yw_len {r: Ru} {fs la: Tx → Nat} {e0: Env} {m: List F} (hs: Spn r fs la): ∀ (ls: List Lt) (nss: List (List Nat)) (k: Nat) (e p: Env),r.body.drop k = ls → Chs r.home fs la e0 m k ls nss → Sim la k e p → (Yw r.home la m k ls nss p).length ≤ (envs r.home m ls e).length
 | [],nss,k,e,p,_,_,_ => by rw [Yw,envs];simp
 | l:: ls,[],k,e,p,_,hc,_ => by cases hc
 | l:: ls,ns:: nss,k,e,p,hd,hc,S => by
  obtain ⟨hk,hd'⟩:= drop_get hd
  obtain ⟨c1,c2⟩:= hc
  rw [Yw,envs]
  refine Nat.le_trans (nodup_flat c1.nodup (L:= List.range m.length) fun i hi => List.mem_range.2 (c1.lt i hi)) ?_
  rw [range_flat (fun o => match o.bind fun f => stp r.home la k l f p with
   | none => []
   | some q => Yw r.home la m (k + 1) ls nss q) m]
  refine flat_le (fun f => ?_) m
  simp only [Option.bind_some]
  obtain ⟨o,ho1,ho2⟩:= lit_both (f:= f) (S.agree hs hk)
  unfold stp
  rw [ho1,ho2]
  cases o with
  | none => simp
  | some mm => exact Yw_len hs ls nss (k + 1) (e ++ mm) _ hd' c2 (S.step mm)
theorem Yw_none {home: Tm} {la: Tx → Nat} {m: List F}: ∀ (ls: List Lt) (nss: List (List Nat)) (k: Nat) (p: Env),nss.length ≤ ls.length → [] ∈ nss → Yw home la m k ls nss p = []
 | [],nss,k,p,h,hm => by
  have: nss = []:= List.eq_nil_of_length_eq_zero (by simpa using h)
  subst this;cases hm
 | l:: ls,[],k,p,_,hm => by cases hm
 | l:: ls,ns:: nss,k,p,h,hm => by
  rw [Yw]
  rcases List.mem_cons.1 hm with rfl | hm
  ·simp
  ·rw [List.flatMap_eq_nil_iff]
   intro i _
   split
   ·rfl
   ·exact Yw_none ls nss (k + 1) _ (by simpa using h) hm
theorem Sim.refl (la: Tx → Nat) (k: Nat) (e: Env): Sim la k e e:= fun _ _ => rfl
theorem Sim.head {r: Ru} {fs la: Tx → Nat} {e p: Env} (hs: Spn r fs la) (h: Sim la r.body.length e p): head r p = head r e:= head_agree fun v hv => h v (hs.head v hv)
theorem hd_same {w: Wd} {r: Ru} {e p: Env} (h: head r p = head r e): hd w r p = hd w r e:= by unfold hd;rw [h]
theorem Yw_heads {w: Wd} {r: Ru} {fs la: Tx → Nat} {c: K} {e0: Env} {m: List F} {nss: List (List Nat)} (hs: Spn r fs la) (hu: uni r.home c [] = some e0) (hc: Chs r.home fs la e0 m 0 r.body nss):
 (∀ x,x ∈ (Yw r.home la m 0 r.body nss e0).flatMap (hd w r) ↔ x ∈ (envs r.home m r.body e0).flatMap (hd w r)) ∧ (Yw r.home la m 0 r.body nss e0).length ≤ (envs r.home m r.body e0).length:= by
 have h0:= E0.of hu
 refine ⟨fun x => ⟨fun hx => ?_,fun hx => ?_⟩,Yw_len hs _ _ 0 e0 e0 (by simp) hc (Sim.refl _ _ _)⟩
 ·obtain ⟨p,hp,hx⟩:= List.mem_flatMap.1 hx
  obtain ⟨e,he,S⟩:= Yw_sound (e0:= e0) hs r.body nss 0 e0 e0 (Nat.zero_le _) (by simp) (Sim.refl _ _ _) p hp
  exact List.mem_flatMap.2 ⟨e,he,by rw [← hd_same (S.head hs)];exact hx⟩
 ·obtain ⟨e,he,hx⟩:= List.mem_flatMap.1 hx
  obtain ⟨p,hp,S⟩:= Yw_complete hs h0 r.body nss 0 e0 e0 (Nat.zero_le _) (by simp) hc (Pk.start hs h0) (Sim.refl _ _ _) e he
  exact List.mem_flatMap.2 ⟨p,hp,by rw [hd_same (S.head hs)];exact hx⟩
theorem Ch.range {home: Tm} {fs la: Tx → Nat} {e0: Env} {m: List F} {k: Nat} {l: Lt}: Ch home fs la e0 m k l (List.range m.length):=
 ⟨List.nodup_range,fun i hi => List.mem_range.1 hi,fun f hf e1 he => by
  obtain ⟨j,hj⟩:= List.getElem?_of_mem hf
  exact ⟨j,List.mem_range.2 (List.getElem?_eq_some_iff.1 hj).1,f,e1,hj,he,rfl⟩⟩
end Ml
end Go.Proofs.YtpdmmmdkpipmkaaGreatDoor
namespace Go.Proofs.YtpdmmmdkpipmkaaGreatDoor
namespace Ml
open Mt (Tx Env uni unis by1 lit lits head nm val nul place vals name fact eqK eqK_iff)
structure Cx where
 r: Ru
 la: Tx → Nat
 m: List F
 nums: List (List Nat)
def Cx.n (x: Cx): Nat:= x.r.body.length
def Cx.ns (x: Cx) (k: Nat): List Nat:= x.nums.getD k []
def Cx.st (x: Cx) (k i: Nat) (p: Env): Option Env:= x.r.body[k]?.bind fun l => x.m[i]?.bind fun f => stp x.r.home x.la k l f p
def Cx.Y (x: Cx) (k: Nat) (p: Env): List Env:= Yw x.r.home x.la x.m k (x.r.body.drop k) (x.nums.drop k) p
def Cx.cont (x: Cx) (k: Nat) (p: Env) (i: Nat): List Env:= match x.st k i p with
 | none => []
 | some q => x.Y (k + 1) q
def Cx.rem (x: Cx) (k: Nat) (p: Env) (t: Nat): List Env:= if k < x.n then ((x.ns k).drop t).flatMap (x.cont k p) else [p]
theorem Cx.Y_rem (x: Cx) (hn: x.nums.length = x.n) (k: Nat) (p: Env): x.Y k p = x.rem k p 0:= by
 unfold Cx.Y Cx.rem
 split
 ·rename_i hk
  have hk1: k < x.r.body.length:= hk
  have hk2: k < x.nums.length:= by rw [hn];exact hk
  rw [List.drop_eq_getElem_cons hk1,List.drop_eq_getElem_cons hk2,Yw,List.drop_zero]
  unfold Cx.ns
  rw [List.getD_eq_getElem?_getD,List.getElem?_eq_getElem hk2]
  congr 1
  funext i
  unfold Cx.cont Cx.st Cx.Y
  rw [List.getElem?_eq_getElem hk1]
  rfl
 ·rename_i hk
  have: x.r.body.drop k = []:= List.drop_eq_nil_of_le (by unfold Cx.n at hk;omega)
  rw [this,Yw]
theorem Cx.rem_next (x: Cx) {k t: Nat} {p: Env} (hk: k < x.n) (ht: t < (x.ns k).length): x.rem k p t = x.cont k p (x.ns k)[t] ++ x.rem k p (t + 1):= by
 unfold Cx.rem
 rw [if_pos hk,if_pos hk,List.drop_eq_getElem_cons ht,List.flatMap_cons]
theorem Cx.rem_end (x: Cx) {k t: Nat} {p: Env} (hk: k < x.n) (ht: (x.ns k).length ≤ t): x.rem k p t = []:= by
 unfold Cx.rem
 rw [if_pos hk,List.drop_eq_nil_of_le ht];rfl
def Cx.remL (x: Cx): Nat → List (Env × Nat) → List Env
 | _,[] => []
 | k,a:: L => x.rem k a.1 a.2 ++ x.remL (k + 1) L
theorem Cx.remL_snoc (x: Cx) (a: Env × Nat): ∀ (L: List (Env × Nat)) (k: Nat),x.remL k (L ++ [a]) = x.remL k L ++ x.rem (k + L.length) a.1 a.2
 | [],k => by simp [Cx.remL]
 | b:: L,k => by
  rw [List.cons_append,Cx.remL,Cx.remL,Cx.remL_snoc x a L (k + 1),List.append_assoc,List.length_cons,show k + 1 + L.length = k + (L.length + 1) by omega]
def Cx.remD (x: Cx) (j: Nat) (L: List (Env × Nat)): List Env:= x.remL j (L.drop j)
theorem Cx.remD_snoc (x: Cx) {j: Nat} {L: List (Env × Nat)} (a: Env × Nat) (h: j ≤ L.length): x.remD j (L ++ [a]) = x.remD j L ++ x.rem L.length a.1 a.2:= by
 unfold Cx.remD
 rw [List.drop_append_of_le_length h,Cx.remL_snoc,List.length_drop,show j + (L.length - j) = L.length by omega]
theorem Cx.remD_over (x: Cx) {j: Nat} {L: List (Env × Nat)} (h: L.length ≤ j): x.remD j L = []:= by
 unfold Cx.remD;rw [List.drop_eq_nil_of_le h];rfl
def Cx.V (x: Cx) (e0: Env): Nat → List Tx → Prop
 | 0,vs => vs = e0.map (·.1)
 | k + 1,vs => ∃ p q: Env,∃ i,x.V e0 k (p.map (·.1)) ∧ x.st k i p = some q ∧ vs = q.map (·.1)
theorem filter_vars {la: Tx → Nat} {k: Nat} {e p: Env} (h: e.map (·.1) = p.map (·.1)): (e.filter (kept la k)).map (·.1) = (p.filter (kept la k)).map (·.1):= by
 have key: ∀ e: Env,(e.filter (kept la k)).map (·.1) = (e.map (·.1)).filter fun v => !decide (la v ≤ k):= fun e => by
  rw [List.filter_map];rfl
 rw [key,key,h]
theorem Cx.st_vars {x: Cx} {k i j: Nat} {p q p1 q1: Env} (h: p.map (·.1) = q.map (·.1)) (hp: x.st k i p = some p1) (hq: x.st k j q = some q1): p1.map (·.1) = q1.map (·.1):= by
 unfold Cx.st at hp hq
 obtain ⟨l,hl,hp⟩:= Option.bind_eq_some_iff.1 hp
 obtain ⟨l',hl',hq⟩:= Option.bind_eq_some_iff.1 hq
 rw [hl] at hl';cases hl'
 obtain ⟨f,_,hp⟩:= Option.bind_eq_some_iff.1 hp
 obtain ⟨g,_,hq⟩:= Option.bind_eq_some_iff.1 hq
 unfold stp at hp hq
 obtain ⟨p2,h1,rfl⟩:= Option.map_eq_some_iff.1 hp
 obtain ⟨q2,h2,rfl⟩:= Option.map_eq_some_iff.1 hq
 exact filter_vars (lit_vars h h1 h2)
theorem Cx.V_next {x: Cx} {e0 p q: Env} {k i: Nat} (hp: x.V e0 k (p.map (·.1))) (h: x.st k i p = some q): x.V e0 (k + 1) (q.map (·.1)):= ⟨p,q,i,hp,h,rfl⟩
theorem Cx.V_one {x: Cx} {e0: Env}: ∀ {k: Nat} {a b: List Tx},x.V e0 k a → x.V e0 k b → a = b
 | 0,_,_,ha,hb => by rw [Cx.V] at ha hb;rw [ha,hb]
 | k + 1,_,_,⟨_,_,_,h1,h2,ha⟩,⟨_,_,_,g1,g2,hb⟩ => by
  rw [ha,hb]
  exact Cx.st_vars (Cx.V_one h1 g1) h2 g2
structure Wk (x: Cx) (e0: Env) (ys: List Env) (L: List (Env × Nat)) (met: List (Nat × Env)): Prop where
 vars: ∀ j p t,L[j]? = some (p,t) → x.V e0 j (p.map (·.1))
 sound: ∀ y,y ∈ ys ∨ y ∈ x.remD 0 L → y ∈ x.Y 0 e0
 full: ∀ y ∈ x.Y 0 e0,y ∈ ys ∨ y ∈ x.remD 0 L
 met: ∀ a ∈ met,x.V e0 (a.1 + 1) (a.2.map (·.1)) ∧ ∀ y ∈ x.Y (a.1 + 1) a.2,y ∈ ys ∨ y ∈ x.remD (a.1 + 1) L
 few: ys.length + (x.remD 0 L).length ≤ (x.Y 0 e0).length
theorem Wk.start (x: Cx) (hn: x.nums.length = x.n) (e0: Env): Wk x e0 [] [(e0,0)] []:= by
 have e: x.remD 0 [(e0,0)] = x.Y 0 e0:= by
  rw [Cx.Y_rem x hn];unfold Cx.remD;rw [List.drop_zero,Cx.remL,Cx.remL,List.append_nil]
 refine ⟨fun j p t h => ?_,fun y hy => ?_,fun y hy => .inr (by rw [e];exact hy),(fun a ha => by cases ha),by rw [e];simp⟩
 ·cases j with
  | zero => cases h;rfl
  | succ j => cases h
 ·rw [e] at hy;exact hy.elim (fun h => by cases h) id
theorem get_snoc {α: Type} {L: List α} {a b: α} {j: Nat} (h: (L ++ [a])[j]? = some b): L[j]? = some b ∨ (j = L.length ∧ b = a):= by
 rcases Nat.lt_or_ge j L.length with hj | hj
 ·rw [List.getElem?_append_left hj] at h;exact .inl h
 ·rw [List.getElem?_append_right hj] at h
  rcases Nat.eq_or_lt_of_le hj with e | e
  ·rw [← e,Nat.sub_self] at h;cases h;exact .inr ⟨e.symm,rfl⟩
  ·rw [List.getElem?_eq_none (by simp;omega)] at h;cases h
theorem Wk.top {x: Cx} {e0 p: Env} {t: Nat} {ys: List Env} {L: List (Env × Nat)} {met: List (Nat × Env)} (h: Wk x e0 ys (L ++ [(p,t)]) met): x.V e0 L.length (p.map (·.1)):=
 h.vars L.length p t (by rw [List.getElem?_append_right (Nat.le_refl _),Nat.sub_self];rfl)
theorem Wk.push {x: Cx} (hn: x.nums.length = x.n) {e0 p q: Env} {t: Nat} {ys: List Env} {L: List (Env × Nat)} {met met': List (Nat × Env)} (h: Wk x e0 ys (L ++ [(p,t)]) met) (hk: L.length < x.n) (ht: t < (x.ns L.length).length)
 (hs: x.st L.length (x.ns L.length)[t] p = some q) (hm: ∀ a ∈ met',a ∈ met ∨ a = (L.length,q)): Wk x e0 ys (L ++ [(p,t + 1)] ++ [(q,0)]) met':= by
 have hV:= Cx.V_next h.top hs
 have hc: x.cont L.length p (x.ns L.length)[t] = x.rem (L.length + 1) q 0:= by
  unfold Cx.cont;rw [hs];exact Cx.Y_rem x hn _ _
 have hR: ∀ j,j ≤ L.length → x.remD j (L ++ [(p,t)]) = x.remD j L ++ (x.rem (L.length + 1) q 0 ++ x.rem L.length p (t + 1)):= fun j hj => by
  rw [Cx.remD_snoc x _ hj];simp only;rw [Cx.rem_next x hk ht,hc]
 have hR': ∀ j,j ≤ L.length → x.remD j (L ++ [(p,t + 1)] ++ [(q,0)]) = x.remD j L ++ x.rem L.length p (t + 1) ++ x.rem (L.length + 1) q 0:= fun j hj => by
  rw [Cx.remD_snoc x _ (by simp;omega),Cx.remD_snoc x _ hj];simp
 have hmem: ∀ j,j ≤ L.length → ∀ y,y ∈ x.remD j (L ++ [(p,t)]) ↔ y ∈ x.remD j (L ++ [(p,t + 1)] ++ [(q,0)]):= fun j hj y => by
  rw [hR j hj,hR' j hj];simp only [List.mem_append]
  constructor
  ·rintro (h | h | h)
   ·exact .inl (.inl h)
   ·exact .inr h
   ·exact .inl (.inr h)
  ·rintro ((h | h) | h)
   ·exact .inl h
   ·exact .inr (.inr h)
   ·exact .inr (.inl h)
 refine ⟨fun j p' t' hj => ?_,fun y hy => h.sound y (hy.imp id (hmem 0 (Nat.zero_le _) y).2),fun y hy => (h.full y hy).imp id (hmem 0 (Nat.zero_le _) y).1,fun a ha => ?_, ?_⟩
 ·rcases get_snoc hj with hj | ⟨rfl,hb⟩
  ·rcases get_snoc hj with hj | ⟨rfl,hb⟩
   ·exact h.vars j p' t' (by rw [List.getElem?_append_left (List.getElem?_eq_some_iff.1 hj).1];exact hj)
   ·cases hb;exact h.top
  ·cases hb;rw [List.length_append,List.length_singleton];exact hV
 ·rcases hm a ha with ha | rfl
  ·obtain ⟨h1,h2⟩:= h.met a ha
   refine ⟨h1,fun y hy => ?_⟩
   by_cases hj: a.1 + 1 ≤ L.length
   ·exact (h2 y hy).imp id (hmem _ hj y).1
   ·refine .inl ((h2 y hy).elim id fun h' => ?_)
    rw [Cx.remD_over x (by simp;omega)] at h';cases h'
  ·refine ⟨hV,fun y hy => .inr ?_⟩
   simp only at hy ⊢
   rw [Cx.Y_rem x hn] at hy
   have: (L ++ [(p,t + 1)]).length = L.length + 1:= by simp
   rw [Cx.remD_snoc x _ (by rw [this];exact Nat.le_refl _),Cx.remD_over x (by rw [this];exact Nat.le_refl _),this]
   exact hy
 ·have:= h.few
  rw [hR 0 (Nat.zero_le _)] at this
  rw [hR' 0 (Nat.zero_le _)]
  simp only [List.length_append] at this ⊢
  omega
theorem Wk.skip {x: Cx} {e0 p: Env} {t: Nat} {ys: List Env} {L: List (Env × Nat)} {met: List (Nat × Env)} (h: Wk x e0 ys (L ++ [(p,t)]) met) (hk: L.length < x.n) (ht: t < (x.ns L.length).length)
 (hs: ∀ q,x.st L.length (x.ns L.length)[t] p = some q → (L.length,q) ∈ met): Wk x e0 ys (L ++ [(p,t + 1)]) met:= by
 have hc: ∀ y ∈ x.cont L.length p (x.ns L.length)[t],y ∈ ys:= fun y hy => by
  unfold Cx.cont at hy
  cases hq: x.st L.length (x.ns L.length)[t] p with
  | none => rw [hq] at hy;cases hy
  | some q =>
   rw [hq] at hy
   rcases (h.met _ (hs q hq)).2 y hy with h' | h'
   ·exact h'
   ·rw [Cx.remD_over x (by simp)] at h';cases h'
 have hR: ∀ j,j ≤ L.length → x.remD j (L ++ [(p,t)]) = x.remD j L ++ (x.cont L.length p (x.ns L.length)[t] ++ x.rem L.length p (t + 1)):= fun j hj => by
  rw [Cx.remD_snoc x _ hj];simp only;rw [Cx.rem_next x hk ht]
 have hR': ∀ j,j ≤ L.length → x.remD j (L ++ [(p,t + 1)]) = x.remD j L ++ x.rem L.length p (t + 1):= fun j hj => Cx.remD_snoc x _ hj
 have hto: ∀ j,j ≤ L.length → ∀ y,y ∈ ys ∨ y ∈ x.remD j (L ++ [(p,t)]) → y ∈ ys ∨ y ∈ x.remD j (L ++ [(p,t + 1)]):= fun j hj y hy => by
  rw [hR j hj] at hy;rw [hR' j hj]
  simp only [List.mem_append] at hy ⊢
  rcases hy with h | h | h | h
  ·exact .inl h
  ·exact .inr (.inl h)
  ·exact .inl (hc y h)
  ·exact .inr (.inr h)
 have hfrom: ∀ y,y ∈ x.remD 0 (L ++ [(p,t + 1)]) → y ∈ x.remD 0 (L ++ [(p,t)]):= fun y hy => by
  rw [hR' 0 (Nat.zero_le _)] at hy;rw [hR 0 (Nat.zero_le _)]
  simp only [List.mem_append] at hy ⊢
  exact hy.imp id .inr
 refine ⟨fun j p' t' hj => ?_,fun y hy => h.sound y (hy.imp id (hfrom y)),fun y hy => hto 0 (Nat.zero_le _) y (h.full y hy),fun a ha => ?_, ?_⟩
 ·rcases get_snoc hj with hj | ⟨rfl,hb⟩
  ·exact h.vars j p' t' (by rw [List.getElem?_append_left (List.getElem?_eq_some_iff.1 hj).1];exact hj)
  ·cases hb;exact h.top
 ·obtain ⟨h1,h2⟩:= h.met a ha
  refine ⟨h1,fun y hy => ?_⟩
  by_cases hj: a.1 + 1 ≤ L.length
  ·exact hto _ hj y (h2 y hy)
  ·refine .inl ((h2 y hy).elim id fun h' => ?_)
   rw [Cx.remD_over x (by simp;omega)] at h';cases h'
 ·have:= h.few
  rw [hR 0 (Nat.zero_le _)] at this
  rw [hR' 0 (Nat.zero_le _)]
  simp only [List.length_append] at this ⊢
  omega
theorem Wk.drop {x: Cx} {e0 p: Env} {t: Nat} {ys ys': List Env} {L: List (Env × Nat)} {met: List (Nat × Env)} (h: Wk x e0 ys (L ++ [(p,t)]) met) (hy: ys' = ys ++ x.rem L.length p t): Wk x e0 ys' L met:= by
 have hR: ∀ j,j ≤ L.length → x.remD j (L ++ [(p,t)]) = x.remD j L ++ x.rem L.length p t:= fun j hj => Cx.remD_snoc x _ hj
 have hto: ∀ j,j ≤ L.length → ∀ y,y ∈ ys ∨ y ∈ x.remD j (L ++ [(p,t)]) → y ∈ ys' ∨ y ∈ x.remD j L:= fun j hj y hq => by
  rw [hR j hj] at hq
  rw [hy]
  simp only [List.mem_append] at hq ⊢
  rcases hq with h | h | h
  ·exact .inl (.inl h)
  ·exact .inr h
  ·exact .inl (.inr h)
 refine ⟨fun j p' t' hj => h.vars j p' t' (by rw [List.getElem?_append_left (List.getElem?_eq_some_iff.1 hj).1];exact hj),fun y hq => h.sound y ?_,fun y hq => hto 0 (Nat.zero_le _) y (h.full y hq),fun a ha => ?_, ?_⟩
 ·rw [hR 0 (Nat.zero_le _)]
  rw [hy] at hq
  simp only [List.mem_append] at hq ⊢
  rcases hq with (h | h) | h
  ·exact .inl h
  ·exact .inr (.inr h)
  ·exact .inr (.inl h)
 ·obtain ⟨h1,h2⟩:= h.met a ha
  refine ⟨h1,fun y hq => ?_⟩
  by_cases hj: a.1 + 1 ≤ L.length
  ·exact hto _ hj y (h2 y hq)
  ·refine .inl ((h2 y hq).elim (fun h => by rw [hy];exact List.mem_append_left _ h) fun h' => ?_)
   rw [Cx.remD_over x (by simp;omega)] at h';cases h'
 ·have:= h.few
  rw [hR 0 (Nat.zero_le _)] at this
  rw [hy]
  simp only [List.length_append] at this ⊢
  omega
theorem Wk.pop {x: Cx} {e0 p: Env} {t: Nat} {ys: List Env} {L: List (Env × Nat)} {met: List (Nat × Env)} (h: Wk x e0 ys (L ++ [(p,t)]) met) (hk: L.length < x.n) (ht: (x.ns L.length).length ≤ t): Wk x e0 ys L met:=
 h.drop (by rw [Cx.rem_end x hk ht,List.append_nil])
theorem Wk.tell {x: Cx} {e0 p: Env} {t: Nat} {ys: List Env} {L: List (Env × Nat)} {met: List (Nat × Env)} (h: Wk x e0 ys (L ++ [(p,t)]) met) (hk: x.n ≤ L.length): Wk x e0 (ys ++ [p]) L met:=
 h.drop (by unfold Cx.rem;rw [if_neg (by omega)])
theorem Wk.told {x: Cx} {e0 p: Env} {t: Nat} {ys: List Env} {L: List (Env × Nat)} {met: List (Nat × Env)} (h: Wk x e0 ys (L ++ [(p,t)]) met) (hk: x.n ≤ L.length): p ∈ x.Y 0 e0 ∧ ys.length < (x.Y 0 e0).length:= by
 have h1:= h.tell hk
 refine ⟨h1.sound p (.inl (by simp)), ?_⟩
 have:= h1.few
 simp only [List.length_append,List.length_cons,List.length_nil] at this
 omega
theorem Wk.fin {x: Cx} {e0: Env} {ys: List Env} {met: List (Nat × Env)} (h: Wk x e0 ys [] met): (∀ y,y ∈ ys ↔ y ∈ x.Y 0 e0) ∧ ys.length ≤ (x.Y 0 e0).length:= by
 have e: x.remD 0 [] = []:= Cx.remD_over x (Nat.le_refl _)
 refine ⟨fun y => ⟨fun hy => h.sound y (.inl hy),fun hy => (h.full y hy).elim id fun h => by rw [e] at h;cases h⟩,by have:= h.few;omega⟩
def Cx.wt (x: Cx): Nat → Nat → Nat
 | 0,_ => 1
 | d + 1,k => 1 + (x.ns k).length * (1 + x.wt d (k + 1))
def Cx.left (x: Cx) (k t: Nat): Nat:= if k < x.n then 1 + ((x.ns k).length - t) * (1 + x.wt (x.n - (k + 1)) (k + 1)) else 1
def Cx.lefts (x: Cx): Nat → List (Env × Nat) → Nat
 | _,[] => 0
 | k,a:: L => x.left k a.2 + x.lefts (k + 1) L
theorem Cx.lefts_snoc (x: Cx) (a: Env × Nat): ∀ (L: List (Env × Nat)) (k: Nat),x.lefts k (L ++ [a]) = x.lefts k L + x.left (k + L.length) a.2
 | [],k => by simp [Cx.lefts]
 | b:: L,k => by
  rw [List.cons_append,Cx.lefts,Cx.lefts,Cx.lefts_snoc x a L (k + 1),List.length_cons,show k + 1 + L.length = k + (L.length + 1) by omega];omega
theorem Cx.left_pos (x: Cx) (k t: Nat): 0 < x.left k t:= by unfold Cx.left;split <;> omega
theorem Cx.left_start (x: Cx) (k: Nat): x.left k 0 ≤ x.wt (x.n - k) k:= by
 unfold Cx.left
 split
 ·rename_i hk
  rw [show x.n - k = (x.n - (k + 1)) + 1 by omega,Cx.wt,Nat.sub_zero];exact Nat.le_refl _
 ·rename_i hk
  rw [show x.n - k = 0 by omega,Cx.wt];exact Nat.le_refl _
theorem Cx.lefts_drop (x: Cx) (p: Env) (t: Nat) (L: List (Env × Nat)): x.lefts 0 L < x.lefts 0 (L ++ [(p,t)]):= by
 rw [Cx.lefts_snoc];have:= Cx.left_pos x (0 + L.length) t;simp only;omega
theorem Cx.left_less (x: Cx) {k t: Nat} (hk: k < x.n) (ht: t < (x.ns k).length): x.left k (t + 1) + (1 + x.wt (x.n - (k + 1)) (k + 1)) = x.left k t:= by
 unfold Cx.left
 rw [if_pos hk,if_pos hk,show (x.ns k).length - t = ((x.ns k).length - (t + 1)) + 1 by omega,Nat.succ_mul];omega
theorem Cx.lefts_skip (x: Cx) {p: Env} {t: Nat} {L: List (Env × Nat)} (hk: L.length < x.n) (ht: t < (x.ns L.length).length): x.lefts 0 (L ++ [(p,t + 1)]) < x.lefts 0 (L ++ [(p,t)]):= by
 rw [Cx.lefts_snoc,Cx.lefts_snoc];have:= Cx.left_less x hk ht;simp only [Nat.zero_add];omega
theorem Cx.lefts_push (x: Cx) {p q: Env} {t: Nat} {L: List (Env × Nat)} (hk: L.length < x.n) (ht: t < (x.ns L.length).length): x.lefts 0 (L ++ [(p,t + 1)] ++ [(q,0)]) < x.lefts 0 (L ++ [(p,t)]):= by
 rw [Cx.lefts_snoc,Cx.lefts_snoc,Cx.lefts_snoc]
 have:= Cx.left_less x hk ht
 have:= Cx.left_start x (L.length + 1)
 simp only [Nat.zero_add,List.length_append,List.length_cons,List.length_nil];omega
end Ml
end Go.Proofs.YtpdmmmdkpipmkaaGreatDoor
