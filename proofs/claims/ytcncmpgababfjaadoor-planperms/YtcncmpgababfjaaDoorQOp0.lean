/-
  How rules and slices of them that came in are opened; their texts lie within reach.
-/
import Derived.Test.YtcncmpgababfjaaDoorQW9
import Derived.Test.YtcncmpgababfjaaDoorQSn
import Derived.Test.YtcncmpgababfjaaDoorQCd
import Derived.SizedLaws
import Derived.Deep.Slices
import Derived.Lib.SmallJoins
namespace Go.Proofs.YtcncmpgababfjaaDoor
open Go.ChangeShapes Go.WideShapes Go.ChangeAt Go.RowKit

def kv (k : K) : List Value := [.bool k.num, .int .i64 k.n, str k.s]
def Fits (k : K) : Prop := (-9223372036854775808 ≤ k.n ∧ k.n ≤ 9223372036854775807) ∧ k.s.length ≤ 140737488351232
theorem Tryd.cellsB : Tryd.prog.cellsOf 4 = 1 := by kernel_rfl
theorem Tryd.cellsI : Tryd.prog.cellsOf 3 = 1 := by kernel_rfl
theorem Tryd.cellsS : Tryd.prog.cellsOf 9 = 1 := by kernel_rfl
theorem Tryd.cellsK : Tryd.prog.cellsOf 23 = 3 := by kernel_rfl
theorem flat_place {α β : Type} (f : α → List β) (k : Nat) (hk : ∀ x, (f x).length = k) (l : List α) (j : Nat) (u : β) (h : (l.flatMap f)[j]? = some u) : ∃ i c, ∃ hi : i < l.length, c < k ∧ j = i * k + c ∧ (f l[i])[c]? = some u := by
  have hj := (List.getElem?_eq_some_iff.1 h).1
  rw [flat_len f k hk] at hj
  have hk0 : 0 < k := by rcases Nat.eq_zero_or_pos k with rfl | h0; · simp at hj
                         · exact h0
  have hd := Nat.div_add_mod' j k
  have hi : j / k < l.length := Nat.div_lt_of_lt_mul (by rw [Nat.mul_comm]; exact hj)
  refine ⟨j / k, j % k, hi, Nat.mod_lt _ hk0, by omega, ?_⟩
  rw [← flat_get f k hk l (j / k) (j % k) hi (Nat.mod_lt _ hk0), hd, h]
theorem weightsAll_mem {H : Type} {P : Program} {e : TypeId} : ∀ {l : List (DataW H)} {d : DataW H}, d ∈ l → ∀ n ∈ d.weights P e, n ∈ DataW.weightsAll P e l
  | x :: r, d, hd, n, hn => by
    rw [DataW.weightsAll, List.mem_append]
    rcases List.mem_cons.1 hd with rfl | h
    · exact .inl hn
    · exact .inr (weightsAll_mem h n hn)
theorem three3 {l : List Value} (h : l.length = 3) : ∃ a b c, l = [a, b, c] := by
  match l, h with
  | [a, b, c], _ => exact ⟨a, b, c, rfl⟩
theorem four4 {l : List Value} (h : l.length = 4) : ∃ a b c d, l = [a, b, c, d] := by
  match l, h with
  | [a, b, c, d], _ => exact ⟨a, b, c, d, rfl⟩
theorem str_of (s : ByteArray) : ∃ l : List UInt8, Value.string s = str l := by
  obtain ⟨⟨l⟩⟩ := s; exact ⟨l, rfl⟩

/-- a slice of records that came in -/
theorem cells_row {α : Type} (D : Kd α) (sl el : TypeId) (bytes : Nat) {H : Type} {enc : TypeId × Value → H} {W : World} (hu : Tryd.prog.underlying sl = some (.slice el)) (hc : Tryd.prog.cellsOf el = D.k) (hb : Tryd.prog.bytesOf el = bytes) (hby : 32 ≤ bytes) (Q : α → Prop)
    (he : ∀ {fuel : Nat} {cs : List Value} {x : DataW H × List MemPlace}, DataW.trod enc Tryd.prog W 0 (fun _ => true) true fuel el cs = some x → (∀ n ∈ x.1.weights Tryd.prog el, n ≤ reachBytes) → ∃ v, cs = D.enc v ∧ Q v)
    {fuel : Nat} {cs : List Value} {x : DataW H × List MemPlace} (h : DataW.trod enc Tryd.prog W 0 (fun _ => true) true fuel sl cs = some x) (hw : ∀ n ∈ x.1.weights Tryd.prog sl, n ≤ reachBytes) :
    ∃ a c xs, cs = [.slice a (List.length xs) c] ∧ Row D W a c xs ∧ c ≤ maxLen ∧ xs.length * bytes ≤ reachBytes ∧ ∀ v ∈ xs, Q v := by
  rcases Deep.open_slice hu h with ⟨rfl, _⟩ | ⟨ad, len, cap, m, n, Dd, Pl, rfl, _, hl, hm, hmm, rfl, hcl⟩
  · exact ⟨none, 0, [], rfl, Row.nil D W, by simp, by simp, fun _ h => by simp at h⟩
  · simp only [if_true] at hmm
    replace hmm := hmm.symm
    subst hmm
    rw [hc] at hcl
    have hbig : cap * bytes ≤ reachBytes := hw _ (by
      rw [DataW.weights]
      simp only [hu, hb, List.length_map, List.length_range]
      rw [show len + (cap - len) = cap by omega]
      exact List.mem_cons_self ..)
    by_cases h0 : len = 0
    · subst h0
      exact ⟨some ad, cap, [], rfl, ⟨by simp, by simp, (fun h => by cases h), fun ad' ha j u hu => by simp at hu⟩, hm, by simp, fun _ h => by simp at h⟩
    have hk : ∀ i, i < len → ∃ k : α, W.cells? 0 (ad.add (i * D.k)) D.k = some (D.enc k) ∧ Q k := fun i hi => by
      obtain ⟨cs', h1, h2⟩ := hcl i (by omega)
      obtain ⟨k, rfl, hq⟩ := he h2 (fun n hn => hw n (by
        rw [DataW.weights]
        simp only [hu]
        exact List.mem_cons_of_mem _ (List.mem_append_left _ (weightsAll_mem (d := Dd i) (List.mem_map.2 ⟨i, List.mem_range.2 hi, rfl⟩) n hn))))
      exact ⟨k, h1, hq⟩
    obtain ⟨dk, _⟩ := hk 0 (by omega)
    have hk' : ∀ i, ∃ k : α, i < len → W.cells? 0 (ad.add (i * D.k)) D.k = some (D.enc k) ∧ Q k := fun i => by
      by_cases hi : i < len
      · obtain ⟨k, h⟩ := hk i hi
        exact ⟨k, fun _ => h⟩
      · exact ⟨dk, fun h => absurd h hi⟩
    obtain ⟨kf, hkf⟩ : ∃ kf : Nat → α, ∀ i, i < len → W.cells? 0 (ad.add (i * D.k)) D.k = some (D.enc (kf i)) ∧ Q (kf i) := ⟨fun i => Classical.choose (hk' i), fun i => Classical.choose_spec (hk' i)⟩
    have hlen : ((List.range len).map kf).length = len := by simp
    have hle : len * bytes ≤ reachBytes := Nat.le_trans (Nat.mul_le_mul_right _ hl) hbig
    refine ⟨some ad, cap, (List.range len).map kf, by rw [hlen], ⟨by rw [hlen]; exact hl, ?_, (fun h => by cases h), fun ad' ha j u hu => ?_⟩, hm, by rw [hlen]; exact hle, fun v hv => ?_⟩
    · rw [hlen]
      have : len * 32 ≤ len * bytes := Nat.mul_le_mul_left _ hby
      unfold reachBytes at hle; omega
    · cases ha
      obtain ⟨i, c, hi, hc3, rfl, hv⟩ := flat_place D.enc D.k D.len _ j u hu
      rw [hlen] at hi
      have h1 := (World.cells?_some (hkf i hi).1).2.2 c hc3
      rw [Deep.add_add] at h1
      rw [h1]
      simpa using hv
    · obtain ⟨i, hi, rfl⟩ := List.mem_map.1 hv
      exact (hkf i (List.mem_range.1 hi)).2

theorem cells_const {H : Type} {enc : TypeId × Value → H} {W : World} {fuel : Nat} {cs : List Value} {x : DataW H × List MemPlace} (h : DataW.trod enc Tryd.prog W 0 (fun _ => true) true fuel 23 cs = some x) (hw : ∀ n ∈ x.1.weights Tryd.prog 23, n ≤ reachBytes) : ∃ k : K, cs = kv k ∧ Fits k := by
  obtain ⟨y0, y1, y2, n, hx, hl, h0, h1, h2⟩ := Deep.trod_struct3 Tryd.underlying23 h
  rw [hx] at hw
  rw [Tryd.cellsK] at hl
  obtain ⟨c0, c1, c2, rfl⟩ := three3 hl
  simp only [Tryd.cellsB, Tryd.cellsI, Tryd.cellsS, List.drop_zero, List.drop_succ_cons, List.take_succ_cons, List.take_zero] at h0 h1 h2
  obtain ⟨b, e0, _⟩ := DataW.trod_bool Tryd.underlying4 h0
  obtain ⟨i, e1, _, hwf⟩ := DataW.trod_int Tryd.underlying3 h1
  obtain ⟨s, e2, e2', _⟩ := DataW.trod_string Tryd.underlying9 h2
  subst e2'
  obtain ⟨⟨l⟩⟩ := s
  have hs : l.length ≤ reachBytes := hw _ (by
    rw [DataW.weights]
    simp only [Tryd.underlying23, List.map_cons, List.map_nil, DataW.weightsEach, List.mem_append]
    refine .inr (.inr (.inl ?_))
    rw [DataW.weights]; exact List.mem_singleton.2 rfl)
  simp only [List.cons.injEq, and_true] at e0 e1 e2
  exact ⟨⟨b, i, l⟩, by rw [e0, e1, e2]; rfl, bounds_i64 hwf, hs⟩
/-- what is within reach, of one argument -/
theorem within {H : Type} {ts : List TypeId} {ds : List (DataW H)} (hsz : (DataW.weightsEach Tryd.prog ts ds).all (· ≤ reachBytes) = true) {j : Nat} {t : TypeId} {d : DataW H} (ht : ts[j]? = some t) (hd : ds[j]? = some d) : ∀ n ∈ d.weights Tryd.prog t, n ≤ reachBytes := fun n hn => by
  simpa using List.all_eq_true.1 hsz n (DataW.weights_mem_each ht hd n hn)

theorem Tryd.cellsT : Tryd.prog.cellsOf 25 = 4 := by kernel_rfl
theorem Tryd.cellsTs : Tryd.prog.cellsOf 26 = 1 := by kernel_rfl
theorem Tryd.cellsL : Tryd.prog.cellsOf 39 = 10 := by kernel_rfl
theorem Tryd.cellsLs : Tryd.prog.cellsOf 27 = 1 := by kernel_rfl
theorem Tryd.cellsR : Tryd.prog.cellsOf 29 = 11 := by kernel_rfl
theorem Tryd.bytesT : Tryd.prog.bytesOf 25 = 48 := by kernel_rfl
theorem Tryd.bytesL : Tryd.prog.bytesOf 39 = 136 := by kernel_rfl
theorem Tryd.bytesR : Tryd.prog.bytesOf 29 = 160 := by kernel_rfl

theorem ten {l : List Value} (h : l.length = 10) : ∃ a0 a1 a2 a3 a4 a5 a6 a7 a8 a9, l = [a0, a1, a2, a3, a4, a5, a6, a7, a8, a9] := by
  match l, h with
  | [a0, a1, a2, a3, a4, a5, a6, a7, a8, a9], _ => exact ⟨a0, a1, a2, a3, a4, a5, a6, a7, a8, a9, rfl⟩
theorem eleven {l : List Value} (h : l.length = 11) : ∃ a0 a1 a2 a3 a4 a5 a6 a7 a8 a9 b0, l = [a0, a1, a2, a3, a4, a5, a6, a7, a8, a9, b0] := by
  match l, h with
  | [a0, a1, a2, a3, a4, a5, a6, a7, a8, a9, b0], _ => exact ⟨a0, a1, a2, a3, a4, a5, a6, a7, a8, a9, b0, rfl⟩
theorem trod_struct5 {H : Type} {enc : TypeId × Value → H} {P : Program} {w : World} {base : Nat} {spare : Nat → Bool} {held : Bool} {t : TypeId} {f0 f1 f2 f3 f4 : Field} {fuel : Nat} {cs : List Value} {x : DataW H × List MemPlace} (ht : P.underlying t = some (.struct #[f0, f1, f2, f3, f4])) (h : DataW.trod enc P w base spare held fuel t cs = some x) :
    ∃ y0 y1 y2 y3 y4 n, x.1 = .agg [y0.1, y1.1, y2.1, y3.1, y4.1] ∧ cs.length = P.cellsOf t ∧ DataW.trod enc P w base spare held n f0.type ((cs.drop f0.offset).take (P.cellsOf f0.type)) = some y0 ∧
      DataW.trod enc P w base spare held n f1.type ((cs.drop f1.offset).take (P.cellsOf f1.type)) = some y1 ∧ DataW.trod enc P w base spare held n f2.type ((cs.drop f2.offset).take (P.cellsOf f2.type)) = some y2 ∧
      DataW.trod enc P w base spare held n f3.type ((cs.drop f3.offset).take (P.cellsOf f3.type)) = some y3 ∧ DataW.trod enc P w base spare held n f4.type ((cs.drop f4.offset).take (P.cellsOf f4.type)) = some y4 := by
  obtain ⟨xs, n, _, rfl, hl, hlen, hf⟩ := DataW.trod_struct ht h
  match xs, hlen with
  | [y0, y1, y2, y3, y4], _ => exact ⟨y0, y1, y2, y3, y4, n, by simp, hl, by simpa using hf 0 f0 rfl, by simpa using hf 1 f1 rfl, by simpa using hf 2 f2 rfl, by simpa using hf 3 f3 rfl, by simpa using hf 4 f4 rfl⟩

/-- a term within reach -/
structure Reach9 (t : Tm) : Prop where
  k : Sh.KIn t
  v : t.v.length ≤ 140737488351232
  s : t.k.s.length ≤ 140737488351232
theorem cells_term {H : Type} {enc : TypeId × Value → H} {W : World} {fuel : Nat} {cs : List Value} {x : DataW H × List MemPlace} (h : DataW.trod enc Tryd.prog W 0 (fun _ => true) true fuel 25 cs = some x) (hw : ∀ n ∈ x.1.weights Tryd.prog 25, n ≤ reachBytes) : ∃ t : Tm, cs = tv t ∧ Reach9 t := by
  obtain ⟨y0, y1, n, hx, hl, h0, h1⟩ := trod_struct2 Tryd.underlying25 h
  rw [hx] at hw
  rw [Tryd.cellsT] at hl
  obtain ⟨c0, c1, c2, c3, rfl⟩ := four4 hl
  simp only [Tryd.cellsK, Tryd.cellsS, List.drop_zero, List.drop_succ_cons, List.take_succ_cons, List.take_zero] at h0 h1
  obtain ⟨s, e0, e0', _⟩ := DataW.trod_string Tryd.underlying9 h0
  subst e0'
  obtain ⟨⟨l⟩⟩ := s
  have hs : l.length ≤ reachBytes := hw _ (by
    rw [DataW.weights]
    simp only [Tryd.underlying25, List.map_cons, List.map_nil, DataW.weightsEach, List.mem_append]
    refine .inl ?_
    rw [DataW.weights]; exact List.mem_singleton.2 rfl)
  obtain ⟨k, e1, hk⟩ := cells_const h1 (fun n hn => hw n (by
    rw [DataW.weights]
    simp only [Tryd.underlying25, List.map_cons, List.map_nil, DataW.weightsEach, List.mem_append]
    exact .inr (.inl hn)))
  simp only [List.cons.injEq, and_true, kv] at e0 e1
  exact ⟨⟨l, k⟩, by rw [e0, e1.1, e1.2.1, e1.2.2]; rfl, hk.1, hs, hk.2⟩
theorem cells_terms {H : Type} {enc : TypeId × Value → H} {W : World} {fuel : Nat} {cs : List Value} {x : DataW H × List MemPlace} (h : DataW.trod enc Tryd.prog W 0 (fun _ => true) true fuel 26 cs = some x) (hw : ∀ n ∈ x.1.weights Tryd.prog 26, n ≤ reachBytes) :
    ∃ a c xs, cs = [.slice a (List.length xs) c] ∧ Row tK W a c xs ∧ ∀ t ∈ xs, Reach9 t := by
  obtain ⟨a, c, xs, h1, h2, _, _, h3⟩ := cells_row tK 26 25 48 Tryd.underlying26 Tryd.cellsT Tryd.bytesT (by omega) Reach9 (fun h hw => cells_term h hw) h hw
  exact ⟨a, c, xs, h1, h2, h3⟩
/-- the variables of a literal, of a rule lie within reach -/
structure TxL (y : Lt) : Prop where
  by_ : y.by_.v.length ≤ 140737488351232
  args : ∀ t ∈ y.args, t.v.length ≤ 140737488351232
  at_ : y.at_.v.length ≤ 140737488351232
structure TxV (r : Ru) : Prop where
  home : r.home.v.length ≤ 140737488351232
  body : ∀ y ∈ r.body, TxL y
theorem vok_of {x : Rv} (h : TxV x.r) (f : FewR x) : Ck.Vok x.r := by
  have hm : (140737488351232 : Nat) ≤ maxLen := by decide
  refine ⟨Nat.le_trans h.home hm, fun y hy => ⟨Nat.le_trans (h.body y hy).by_ hm, fun t ht => Nat.le_trans ((h.body y hy).args t ht) hm, Nat.le_trans (h.body y hy).at_ hm⟩, ?_, fun y hy => ?_⟩
  · show (x.body.map Lv.l).length ≤ 300
    rw [List.length_map]; exact f.b
  · obtain ⟨z, hz, rfl⟩ := List.mem_map.1 hy
    exact f.c z hz
theorem cells_lit2 {H : Type} {enc : TypeId × Value → H} {W : World} {fuel : Nat} {cs : List Value} {x : DataW H × List MemPlace} (h : DataW.trod enc Tryd.prog W 0 (fun _ => true) true fuel 39 cs = some x) (hw : ∀ n ∈ x.1.weights Tryd.prog 39, n ≤ reachBytes) : ∃ v : Lv, cs = lv v ∧ (Lv.Aw W v ∧ Sh.LIn v.l ∧ v.pred.length ≤ 140737488351232 ∧ TxL v.l) := by
  obtain ⟨y0, y1, y2, y3, n, rfl, hl, h0, h1, h2, h3⟩ := Joins.trod_struct4 Tryd.underlying39 h
  rw [Tryd.cellsL] at hl
  obtain ⟨a0, a1, a2, a3, a4, a5, a6, a7, a8, a9, rfl⟩ := ten hl
  simp only [Tryd.cellsT, Tryd.cellsTs, Tryd.cellsS, List.drop_zero, List.drop_succ_cons, List.take_succ_cons, List.take_zero] at h0 h1 h2 h3
  obtain ⟨t0, e0, k0⟩ := cells_term h0 (fun n hn => hw n (by
    rw [DataW.weights]
    simp only [Tryd.underlying39, List.map_cons, List.map_nil, DataW.weightsEach, List.mem_append]
    exact .inl hn))
  obtain ⟨s1, e1, f1', _⟩ := DataW.trod_string Tryd.underlying9 h1
  subst f1'
  obtain ⟨⟨l1⟩⟩ := s1
  have g1 : l1.length ≤ reachBytes := hw _ (by
    rw [DataW.weights]
    simp only [Tryd.underlying39, List.map_cons, List.map_nil, DataW.weightsEach, List.mem_append]
    refine .inr (.inl ?_)
    rw [DataW.weights]; exact List.mem_singleton.2 rfl)
  obtain ⟨a, c, ts, e2, hA, k2⟩ := cells_terms h2 (fun n hn => hw n (by
    rw [DataW.weights]
    simp only [Tryd.underlying39, List.map_cons, List.map_nil, DataW.weightsEach, List.mem_append]
    exact .inr (.inr (.inl hn))))
  obtain ⟨t3, e3, k3⟩ := cells_term h3 (fun n hn => hw n (by
    rw [DataW.weights]
    simp only [Tryd.underlying39, List.map_cons, List.map_nil, DataW.weightsEach, List.mem_append]
    exact .inr (.inr (.inr (.inl hn)))))
  simp only [List.cons.injEq, and_true, tv] at e0 e1 e2 e3
  exact ⟨⟨t0, l1, a, c, ts, t3⟩, by rw [e0.1, e0.2.1, e0.2.2.1, e0.2.2.2, e1, e2, e3.1, e3.2.1, e3.2.2.1, e3.2.2.2]; rfl, hA, ⟨k0.k, fun t ht => (k2 t ht).k, k3.k⟩, g1, ⟨k0.v, fun t ht => (k2 t ht).v, k3.v⟩⟩
theorem cells_rule2 {H : Type} {enc : TypeId × Value → H} {W : World} {fuel : Nat} {cs : List Value} {x : DataW H × List MemPlace} (h : DataW.trod enc Tryd.prog W 0 (fun _ => true) true fuel 29 cs = some x) (hw : ∀ n ∈ x.1.weights Tryd.prog 29, n ≤ reachBytes) : ∃ v : Rv, cs = rv v ∧ (Rv.Aw W v ∧ Sh.RIn v.r ∧ TxR v ∧ TxV v.r) := by
  obtain ⟨y0, y1, y2, y3, y4, n, hx, hl, h0, h1, h2, h3, h4⟩ := trod_struct5 Tryd.underlying29 h
  rw [hx] at hw
  rw [Tryd.cellsR] at hl
  obtain ⟨a0, a1, a2, a3, a4, a5, a6, a7, a8, a9, a10, rfl⟩ := eleven hl
  simp only [Tryd.cellsT, Tryd.cellsTs, Tryd.cellsLs, Tryd.cellsS, List.drop_zero, List.drop_succ_cons, List.take_succ_cons, List.take_zero] at h0 h1 h2 h3 h4
  obtain ⟨t0, e0, k0⟩ := cells_term h0 (fun n hn => hw n (by
    rw [DataW.weights]
    simp only [Tryd.underlying29, List.map_cons, List.map_nil, DataW.weightsEach, List.mem_append]
    exact .inl hn))
  obtain ⟨s1, e1, f1', _⟩ := DataW.trod_string Tryd.underlying9 h1
  subst f1'
  obtain ⟨⟨l1⟩⟩ := s1
  have g1 : l1.length ≤ reachBytes := hw _ (by
    rw [DataW.weights]
    simp only [Tryd.underlying29, List.map_cons, List.map_nil, DataW.weightsEach, List.mem_append]
    refine .inr (.inl ?_)
    rw [DataW.weights]; exact List.mem_singleton.2 rfl)
  obtain ⟨a, c, ts, e2, hA, k2⟩ := cells_terms h2 (fun n hn => hw n (by
    rw [DataW.weights]
    simp only [Tryd.underlying29, List.map_cons, List.map_nil, DataW.weightsEach, List.mem_append]
    exact .inr (.inr (.inl hn))))
  obtain ⟨t3, e3, k3⟩ := cells_term h3 (fun n hn => hw n (by
    rw [DataW.weights]
    simp only [Tryd.underlying29, List.map_cons, List.map_nil, DataW.weightsEach, List.mem_append]
    exact .inr (.inr (.inr (.inl hn)))))
  obtain ⟨a', c', ls, e4, hL, _, _, k4⟩ := cells_row lK 27 39 136 Tryd.underlying27 Tryd.cellsL Tryd.bytesL (by omega) (fun v : Lv => Lv.Aw W v ∧ Sh.LIn v.l ∧ v.pred.length ≤ 140737488351232 ∧ TxL v.l) (fun h hw => cells_lit2 h hw) h4 (fun n hn => hw n (by
    rw [DataW.weights]
    simp only [Tryd.underlying29, List.map_cons, List.map_nil, DataW.weightsEach, List.mem_append]
    exact .inr (.inr (.inr (.inr (.inl hn))))))
  simp only [List.cons.injEq, and_true, tv] at e0 e1 e2 e3 e4
  refine ⟨⟨t0, l1, a, c, ts, t3, a', c', ls⟩, by rw [e0.1, e0.2.1, e0.2.2.1, e0.2.2.2, e1, e2, e3.1, e3.2.1, e3.2.2.1, e3.2.2.2, e4]; rfl, ⟨hA, hL, fun l hl => (k4 l hl).1⟩, ⟨k0.k, fun t ht => (k2 t ht).k, k3.k, fun l hl => ?_⟩, ⟨g1, fun l hl => (k4 l hl).2.2.1⟩, ⟨k0.v, fun l hl => ?_⟩⟩
  · obtain ⟨v, hv, rfl⟩ := List.mem_map.1 hl
    exact (k4 v hv).2.1
  · obtain ⟨v, hv, rfl⟩ := List.mem_map.1 hl
    exact (k4 v hv).2.2.2
set_option maxRecDepth 100000 in
theorem open_rules2 {H : Type} {enc : TypeId × Value → H} {W : World} {base : Nat} {v : Value} {d : DataW H} {p : List MemPlace} (hw : ∀ n ∈ d.weights Tryd.prog 31, n ≤ reachBytes) (hv : Value.okWide Tryd.prog W .any base 31 v) (ht : DataW.Trod enc Tryd.prog W 0 (fun _ => true) true 31 v d p) :
    ∃ a c xs, v = .slice a (List.length xs) c ∧ Row rK W a c xs ∧ (∀ x ∈ xs, Rv.Aw W x) ∧ ∀ x ∈ xs, Sh.RIn x.r ∧ TxR x ∧ TxV x.r := by
  obtain ⟨a, len, cap, rfl⟩ := okWide_slice Tryd.underlying31 hv
  obtain ⟨fuel, hf⟩ := ht
  obtain ⟨a', c', xs, h1, h2, _, _, h3⟩ := cells_row rK 31 29 160 Tryd.underlying31 Tryd.cellsR Tryd.bytesR (by omega) (fun v : Rv => Rv.Aw W v ∧ Sh.RIn v.r ∧ TxR v ∧ TxV v.r) (fun h hw => cells_rule2 h hw) hf hw
  simp only [Value.cells, List.cons.injEq, and_true] at h1
  exact ⟨a', c', xs, h1, h2, fun x hx => (h3 x hx).1, fun x hx => (h3 x hx).2⟩
/-- a term, a rule, by value -/
theorem two2 {α : Type} {l : List α} (h : l.length = 2) : ∃ a b, l = [a, b] := by
  match l, h with
  | [a, b], _ => exact ⟨a, b, rfl⟩
set_option maxRecDepth 100000 in
theorem open_term {H : Type} {enc : TypeId × Value → H} {W : World} {base : Nat} {v : Value} {d : DataW H} {p : List MemPlace} (hw : ∀ n ∈ d.weights Tryd.prog 25, n ≤ reachBytes) (hv : Value.okWide Tryd.prog W .any base 25 v) (ht : DataW.Trod enc Tryd.prog W 0 (fun _ => true) true 25 v d p) : ∃ x : Tm, v = tval x ∧ Reach9 x := by
  obtain ⟨cs, rfl, _⟩ := okWide_struct Tryd.underlying25 hv
  obtain ⟨fuel, hf⟩ := ht
  obtain ⟨x, hx, hA⟩ := cells_term hf hw
  refine ⟨x, ?_, hA⟩
  rw [Value.cells] at hx
  rw [show cs = (tv x).toArray by rw [← hx]]
  rfl
set_option maxRecDepth 100000 in
theorem open_rule {H : Type} {enc : TypeId × Value → H} {W : World} {base : Nat} {v : Value} {d : DataW H} {p : List MemPlace} (hw : ∀ n ∈ d.weights Tryd.prog 29, n ≤ reachBytes) (hv : Value.okWide Tryd.prog W .any base 29 v) (ht : DataW.Trod enc Tryd.prog W 0 (fun _ => true) true 29 v d p) : ∃ x : Rv, v = rval x ∧ Rv.Aw W x ∧ (Sh.RIn x.r ∧ TxR x ∧ TxV x.r) := by
  obtain ⟨cs, rfl, _⟩ := okWide_struct Tryd.underlying29 hv
  obtain ⟨fuel, hf⟩ := ht
  obtain ⟨x, hx, hA, hB⟩ := cells_rule2 hf hw
  refine ⟨x, ?_, hA, hB⟩
  rw [Value.cells] at hx
  rw [show cs = (rv x).toArray by rw [← hx]]
  rfl
end Go.Proofs.YtcncmpgababfjaaDoor
