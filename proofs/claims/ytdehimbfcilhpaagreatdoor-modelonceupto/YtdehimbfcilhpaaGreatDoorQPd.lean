/-
  The program's endOf, skip; the reference's Skip: where they end.
-/
import Derived.WalkMore
import Derived.Shelf.Abstract
import Derived.Lib.LaidTab
import Derived.Defers
import Derived.Recover
import Derived.Test.YtdehimbfcilhpaaGreatDoorQCh
import Derived.Test.YtdehimbfcilhpaaGreatDoorQPb
import Derived.Test.YtdehimbfcilhpaaGreatDoorQShelfB
import Derived.Test.YtdehimbfcilhpaaGreatDoorQOw
namespace Go.Proofs.YtdehimbfcilhpaaGreatDoor
open Go.RowKit Go.Lib Go.Shelf


set_option maxRecDepth 100000 in
set_option maxHeartbeats 1000000 in
theorem endOf_at (F : Nat) (p : UInt8 → Bool) (hp : ∀ (c : UInt8) w, Calls Tryz.prog F #[.int .u8 (c.toNat : Int)] w fun e w' => e = .returned (.bool (p c)) ∧ w = w') (l : List UInt8) (i : Nat) (w : World) (hE : ∀ args w, (callFunc F args).run Tryz.prog w = .ok (.enter F args) w) (hr : l.length ≤ 281474976710656) (hi : i ≤ l.length) :
    Calls Tryz.prog 92 #[str l, .int .i64 (i : Int), .func (.func F) #[] #[]] w fun e w' => e = .returned (.int .i64 (Lx.run p l i : Int)) ∧ w = w' := by
  have HP := hideP hp
  clear hp
  have hsz := str_size l
  go_enter Tryz.func92, Tryz.ntmps92
  go_wp2_with fail
  go_loop [1] (fun x => ∃ k : Nat, x = .int .i64 (k : Int) ∧ k ≤ l.length ∧ Lx.run p l i = Lx.run p l k) (fun x => l.length - (intOf x).toNat)
  case atStart => exact ⟨i, rfl, hi, rfl⟩
  case round =>
    obtain ⟨k, rfl, hk, he⟩ := hrel
    have HE := hideP he
    clear he
    rcases Nat.lt_or_ge k l.length with hlt | hge
    · have hlt' : (k : Int) < (l.length : Int) := by omega
      have D := hideP (HP.out l[k])
      have S1 := hideP (fun h => Lx.run_step (p := p) (l := l) (i := k) hlt h)
      have S2 := hideP (fun h => Lx.run_stop (p := p) (l := l) (i := k) hlt h)
      generalize p l[k] = b at *
      go_wp2_with (refine (D.out _).mono ?_; rintro e w1 ⟨rfl, rfl⟩)
      · refine ⟨⟨k + 1, by go_num, by omega, ?_⟩, by simp [intOf]; omega⟩
        rw [HE.out, S1.out (by assumption)]
      · go_ret
        refine ⟨?_, rfl⟩
        rw [HE.out, S2.out (by simp_all)]; rfl
    · have hge' : ¬ (k : Int) < (l.length : Int) := by omega
      go_wp2_with fail
      go_ret
      refine ⟨?_, rfl⟩
      rw [HE.out, Lx.run_end hge]; rfl

theorem enter_skip1 (args : Array Value) (w : World) : (callFunc 93 args).run Tryz.prog w = .ok (.enter 93 args) w := enters_of Tryz.func93 (by kernel_rfl) rfl args w
theorem enter_word1 (args : Array Value) (w : World) : (callFunc 132 args).run Tryz.prog w = .ok (.enter 132 args) w := enters_of Tryz.func132 (by kernel_rfl) rfl args w
theorem enter_quot1 (args : Array Value) (w : World) : (callFunc 135 args).run Tryz.prog w = .ok (.enter 135 args) w := enters_of Tryz.func135 (by kernel_rfl) rfl args w
theorem enter_digit (args : Array Value) (w : World) : (callFunc 97 args).run Tryz.prog w = .ok (.enter 97 args) w := enters_of Tryz.func97 (by kernel_rfl) rfl args w

set_option maxRecDepth 100000 in
set_option maxHeartbeats 1000000 in
theorem lskip_at (l : List UInt8) (i : Nat) (w : World) (hr : l.length ≤ 281474976710656) (hi : i ≤ l.length) :
    Calls Tryz.prog 72 #[str l, .int .i64 (i : Int)] w fun e w' => e = .returned (.int .i64 (Lx.skip l i : Int)) ∧ w = w' := by
  have hsz := str_size l
  go_enter Tryz.func72, Tryz.ntmps72
  go_wp2_with fail
  go_step3
  go_wp2_with fail
  go_step3
  go_wp2_with fail
  go_loop [1] (fun x => ∃ k : Nat, x = .int .i64 (k : Int) ∧ k ≤ l.length ∧ Lx.skip l i = Lx.skip l k) (fun x => l.length - (intOf x).toNat)
  case atStart => exact ⟨i, rfl, hi, rfl⟩
  case round =>
    obtain ⟨k, rfl, hk, he⟩ := hrel
    have HE := hideP he
    clear he
    rcases Nat.lt_or_ge k l.length with hlt | hge
    · have hlt' : (k : Int) < (l.length : Int) := by omega
      have E := hideP (endOf_at 93 Lx.noLf lnolf_at l k w enter_skip1 hr hk)
      have S1 := hideP (fun h => Lx.skip_blank (l := l) (i := k) hlt h)
      have S2 := hideP (fun h h' => Lx.skip_other (l := l) (i := k) hlt h h')
      have S3 := hideP (fun h => Lx.skip_note (l := l) (i := k) hlt h)
      have S4 := hideP (fun h => Lx.run_step (p := Lx.noLf) (l := l) (i := k) hlt h)
      have R1 := hideP (Lx.run_le Lx.noLf hk)
      have R2 := hideP (Lx.le_run Lx.noLf l (k + 1))
      generalize hc : l[k] = c at *
      have hb : Lx.blank c = (decide (c.toNat = 32) || decide (c.toNat = 9) || decide (c.toNat = 10) || decide (c.toNat = 13)) := rfl
      have hn : Lx.noLf c = !decide (c.toNat = 10) := rfl
      generalize Lx.blank c = b at *
      generalize Lx.noLf c = n at *
      have hg : ∀ h, ((⟨l.toArray⟩ : ByteArray)[k]'h).toNat = c.toNat := fun _ => by rw [← hc]; rfl
      generalize hx : c.toNat = x at *
      have HB := hideP hb
      have HN := hideP hn
      clear hb hn
      go_wp2_with (refine E.out.mono ?_; rintro e w1 ⟨rfl, rfl⟩)
      all_goals simp only [hg, beq_iff_eq, beq_eq_false_iff_ne, ne_eq] at *
      all_goals first
        | (refine ⟨⟨k + 1, by go_num, by omega, ?_⟩, by simp [intOf]; omega⟩
           rw [HE.out, S1.out (by rw [HB.out]; simp; omega)])
        | (have e37 : x = 37 := by omega
           have r1 := R1.out
           have r2 := R2.out
           have r4 := S4.out (by rw [HN.out]; simp; omega)
           refine ⟨⟨Lx.run Lx.noLf l k, rfl, r1, ?_⟩, ?_⟩
           · rw [HE.out, S3.out e37]
           · simp [intOf]; omega)
        | (try rw [Exit.noGoto_ret]
           go_ret
           refine ⟨?_, rfl⟩
           rw [HE.out, S2.out (by rw [HB.out]; simp; omega) (by omega)]; rfl)
    · have hge' : ¬ (k : Int) < (l.length : Int) := by omega
      go_wp2_with fail
      go_ret
      refine ⟨?_, rfl⟩
      rw [HE.out]; unfold Lx.skip; rw [Lx.skipN_end hge]; rfl
end Go.Proofs.YtdehimbfcilhpaaGreatDoor

/-
  Tokens in memory; the program's word.
-/
namespace Go.Proofs.YtdehimbfcilhpaaGreatDoor
open Go.RowKit Go.Lib Go.Shelf

def tokv (t : Lx.Tok) : List Value := [.int .i64 t.kind, str t.text, .int .i64 t.n, .int .i64 (t.pl : Int)]
def kT : Kd Lx.Tok := ⟨tokv, 4, fun _ => rfl, fun _ => rfl, by decide⟩
def pz : Lx.Tok := ⟨0, [], 0, 0⟩
/-- what the program's functions of one token answer -/
def pres : Option (Lx.Tok × Nat) → Lx.Tok × Nat × Int
  | none => (pz, 0, 70)
  | some (t, e) => if 32 < t.text.length then (pz, 0, 71) else (t, e, 0)
def tokR (r : Lx.Tok × Nat × Int) : Ending := .returned (.tuple #[.agg (tokv r.1).toArray, .int .i64 (r.2.1 : Int), .int .i64 r.2.2])

theorem results_cell_two {P : Program} {fn : Func} {p q r : Tmp} {ty : TypeId} {tmps : Array Value} {w : World} {b : Nat} {C : Array Value} {d : TypeDesc} {T : TypeId} (h : fn.results = #[.cell p ty, .tmp q, .tmp r]) (hp : tmps.getD p undef = .pointer (some ⟨b, 0, none⟩)) (hc : w.heap[b]? = some (.cells C T))
    (hu : P.underlying ty = some d) (hd : d.isRow = true) (hi : (P.info? ty).map (·.size) = some C.size) : (results fn tmps).run P w = .ok (.tuple #[.agg C, tmps.getD q undef, tmps.getD r undef]) w := by
  have hr : w.rangeAt b 0 C.toList := by
    have := World.rangeAt_of_block hc 0 C.size
    simpa using this
  simp only [Array.getD_eq_getD_getElem?] at hp ⊢
  simp only [results, h]
  simp [asAddr, hp, run_loadVar_mid w b 0 ty C.toList d hr hu hd (by simpa using hi)]
theorem extract_sub (l : List UInt8) (i j : Nat) (_h : j ≤ l.length) : (⟨l.toArray⟩ : ByteArray).extract i j = ⟨(Lx.sub l i j).toArray⟩ := by
  apply ByteArray.ext
  simp only [ByteArray.data_extract, Lx.sub]
  apply Array.ext'
  simp [List.extract_eq_take_drop]
abbrev zTok : Obj := .cells #[.int .i64 0, .string .empty, .int .i64 0, .int .i64 0] 119


set_option maxRecDepth 100000 in
set_option maxHeartbeats 1000000 in
theorem word_at (k : Int) (l : List UInt8) (i : Nat) (w : World) (hr : l.length ≤ 281474976710656) (hi : i ≤ l.length) :
    Calls Tryz.prog 95 #[str l, .int .i64 (i : Int), .int .i64 k] w fun e w' => e = tokR (pres (Lx.word k l i)) ∧ Below w.heap.size w w' := by
  have hsz := str_size l
  have iN : (Tryz.prog.info? 119).map (·.size) = some 4 := by kernel_rfl
  have E := hideP (fun w => endOf_at 132 Lx.inner linner_at l i w enter_word1 hr hi)
  have R1 := Lx.run_le Lx.inner hi
  have R2 := Lx.le_run Lx.inner l i
  have hw : Lx.word k l i = some (⟨k, Lx.sub l i (Lx.run Lx.inner l i), 0, i⟩, Lx.run Lx.inner l i) := rfl
  have hs := extract_sub l i (Lx.run Lx.inner l i) R1
  have hl := Lx.sub_length (i := i) R1
  generalize Lx.run Lx.inner l i = j at *
  have HW := hideP hw
  clear hw
  have H0 := heap_alloc_new w zTok
  have B0 := below_alloc w zTok
  go_enter Tryz.func95, Tryz.ntmps95
  go_wp2_with (first
    | (go_at_call 92; refine (E.out _).mono ?_; rintro e w1 ⟨rfl, rfl⟩)
    | (refine wpList_store_all rfl 119 _ _ rfl w.heap.size 4 _ 119 _ rfl rfl H0 rfl rfl iN rfl ?_; intro w4 H4 b4))
  all_goals refine bodyPost_ret (results_cell_two rfl rfl H4 Tryz.underlying119 rfl (by kernel_rfl)) rfl ⟨?_, below_tok b4⟩
  · rw [HW.out, pres, if_pos (by simp only [hl]; omega)]; rfl
  · rw [HW.out, pres, if_neg (by simp only [hl]; omega)]; rfl
end Go.Proofs.YtdehimbfcilhpaaGreatDoor

/-
  What the package-level variables hold that the road reads; the library's Atoi, Itoa, Count and LastIndexByte in this program.
-/
namespace Go.Proofs.YtdehimbfcilhpaaGreatDoor
open Go.RowKit Go.Lib Go.Shelf

structure Laid (w : World) : Prop where
  tab : Lib.TabIs Tryz.prog w "internal/strconv.uint64pow10" .u64 Lib.pow10Tab
  syn : ∃ te pe, w.cell? ⟨1, 0, none⟩ = some (.iface te pe)
  rng : ∃ te pe, w.cell? ⟨2, 0, none⟩ = some (.iface te pe)
theorem Tryz.gTab : Tryz.prog.globalNamed "internal/strconv.uint64pow10" = some 3 := by kernel_rfl
theorem Laid.below {w w' : World} (h : Laid w) (hb : Below w.heap.size w w') : Laid w' := by
  obtain ⟨h1, ⟨t2, p2, h2⟩, ⟨t3, p3, h3⟩⟩ := h
  refine ⟨?_, ⟨t2, p2, by rw [hb.cell (cell_block h2)]; exact h2⟩, ⟨t3, p3, by rw [hb.cell (cell_block h3)]; exact h3⟩⟩
  unfold Lib.TabIs World.var? at *
  rw [Tryz.gTab] at *
  simp only [Option.bind_some] at *
  have hl : 3 < w.heap.size := by
    rcases Nat.lt_or_ge 3 w.heap.size with h' | h'
    · exact h'
    · simp [h'] at h1
  rw [hb.block 3 hl]; exact h1
theorem Laid.drew {w : World} (h : Laid w) : Laid w.drew := h.below ((Below.refl _ _).drew)

theorem atoi_ok (s : List UInt8) (v : Int) (w : World) (hr : s.length ≤ 281474976710656) (h : Lib.atoiAll s = .ok v) :
    Calls Tryz.prog 133 #[str s] w fun e w' => e = .returned (.tuple #[.int .i64 v, .nilIface]) ∧ Below w.heap.size w w' := by
  refine (Any.strconv_Atoi_ok Tryz.atoiLays ⟨s.toArray⟩ (by rw [str_size]; omega) v (by simpa using h) w).mono ?_
  rintro e w' ⟨rfl, rfl | ⟨t, rfl⟩⟩
  · exact ⟨rfl, Below.refl _ _⟩
  · exact ⟨rfl, Lib.bytesWorld_below _ _ _⟩
theorem atoi_no (s : List UInt8) (w : World) (hr : s.length ≤ 281474976710656) (hL : Laid w) (h : ¬ ∃ v, Lib.atoiAll s = .ok v) :
    Calls Tryz.prog 133 #[str s] w fun e w' => (∃ (n : Int) (N : Nat), e = .returned (.tuple #[.int .i64 n, .iface 224 (.pointer (some ⟨N, 0, none⟩))])) ∧ Below w.heap.size w w' := by
  cases h1 : Lib.atoiAll s with
  | ok v => exact absurd ⟨v, h1⟩ h
  | range =>
    obtain ⟨te, pe, hc⟩ := hL.rng
    refine (Any.strconv_Atoi_range Tryz.atoiLays ⟨s.toArray⟩ (by rw [str_size]; exact hr) (by simpa using h1) _ w hc (.inr ⟨te, pe, rfl⟩)).mono ?_
    rintro e w' ⟨N, rfl, _, _, hb⟩
    exact ⟨⟨_, N, rfl⟩, hb⟩
  | _ =>
    obtain ⟨te, pe, hc⟩ := hL.syn
    refine (Any.strconv_Atoi_syntax Tryz.atoiLays ⟨s.toArray⟩ (by rw [str_size]; exact hr) (by simpa using h1) _ w hc (.inr ⟨te, pe, rfl⟩)).mono ?_
    rintro e w' ⟨N, rfl, _, _, hb⟩
    exact ⟨⟨_, N, rfl⟩, hb⟩
theorem itoa_at (n : Int) (w : World) (h0 : -9223372036854775808 ≤ n) (h1 : n ≤ 9223372036854775807) (hL : Laid w) :
    Calls Tryz.prog 134 #[.int .i64 n] w fun e w' => e = .returned (str (Lib.itoa n)) ∧ Below w.heap.size w w' := by
  refine (Any.strconv_Itoa Tryz.itoaLays n h0 h1 w hL.tab).mono ?_
  rintro e w' ⟨rfl, k, os, rfl⟩
  exact ⟨rfl, Grew.below ⟨k, os, rfl⟩⟩
end Go.Proofs.YtdehimbfcilhpaaGreatDoor

/-
  What a case of little weight that came in gives; the statements' least.
-/
namespace Go.Proofs.YtdehimbfcilhpaaGreatDoor
open Go.RowKit Go.Lib Go.Shelf

theorem tab_of {w : World} (h : Laid w) : TabB w.heap.size w := fun _ hb => (h.below hb).tab
theorem RvB.smh {x : Rv} (h : RvB x) : SmH x.r := ⟨h.home.k, h.to_.k, fun t ht => (h.args t ht).k⟩
theorem tm_le {t : Tm} (h : TmB t) : t.v.length ≤ maxLen := Nat.le_trans h.v (by decide)
theorem RvB.smr {x : Rv} (h : RvB x) (l : LtR 120 x) : SmR x := by
  have l1 := l.body
  have l2 := l.args
  refine ⟨by omega, by omega, fun y hy => by have := (l.each y hy).args; omega, fun v hv => ?_, fun y hy v hv => ?_⟩
  · unfold Ml.hvars at hv
    simp only [List.mem_cons, List.mem_map] at hv
    rcases hv with rfl | rfl | ⟨t, ht, rfl⟩
    · exact tm_le h.home
    · exact tm_le h.to_
    · exact tm_le (h.args t ht)
  · have hb := h.body y hy
    unfold Ml.lvars at hv
    simp only [List.mem_cons, List.mem_map] at hv
    rcases hv with rfl | rfl | ⟨t, ht, rfl⟩
    · first | exact tm_le hb.by_ | exact tm_le hb.at_
    · first | exact tm_le hb.at_ | exact tm_le hb.by_
    · exact tm_le (hb.args t ht)
theorem FvB.sm {z : Fv} (h : FvB z) : SmF z.f := ⟨h.at_, h.by_, h.ks⟩
theorem FvB.tx {z : Fv} (h : FvB z) : TxF z := ⟨by have := h.at_; omega, by have := h.by_; omega, by have := h.pred; omega, fun k hk => by have := (h.ks k hk).2.2; omega⟩
theorem RvB.tx {x : Rv} (h : RvB x) : TxR x := ⟨by have := h.pred; omega, fun l hl => by have := (h.body l hl).pred; omega⟩
theorem CsB.lin {W : World} {ha : Option Addr} {hc : Nat} {hs : List (List UInt8)} {na : Option Addr} {nc : Nat} {ns : List (List UInt8)} {ra : Option Addr} {rc : Nat} {rs : List Rv} {fa : Option Addr} {fc : Nat} {zs : List Fv} (h : CsB W ha hc hs na nc ns ra rc rs fa fc zs) (hL : Laid W) (l : ∀ r ∈ rs, LtR 120 r) : LIn W ra rc rs ha hc hs na nc ns :=
  ⟨h.rules.at_, fun r hr => (h.rules.each r hr).smr (l r hr), fun r hr => by
    obtain ⟨x, hx, rfl⟩ := List.mem_map.1 hr
    exact (h.rules.each x hx).smh, h.homes.row, h.homes.each, h.names.row, tab_of hL⟩
theorem CsB.rin {W : World} {ha : Option Addr} {hc : Nat} {hs : List (List UInt8)} {na : Option Addr} {nc : Nat} {ns : List (List UInt8)} {ra : Option Addr} {rc : Nat} {rs : List Rv} {fa : Option Addr} {fc : Nat} {zs : List Fv} (h : CsB W ha hc hs na nc ns ra rc rs fa fc zs) (l : ∀ r ∈ rs, LtR 120 r) (hm : rs.length * hs.length ≤ 1000000) : RIn0 W ra rc rs ha hc hs na nc ns :=
  ⟨h.rules.at_, fun r hr => (h.rules.each r hr).smr (l r hr), h.homes.row, h.names.row, hm⟩
theorem Light.most {hs ns : List (List UInt8)} {rs : List Rv} {zs : List Fv} (h : Light hs ns rs zs) : rs.length * hs.length ≤ 1000000 := by
  have := Nat.mul_le_mul h.rules h.homes
  omega
theorem c0_ok : (⟨0, false⟩ : Ml.Cn).Ok := ⟨by decide, fun _ => by decide⟩
/-- what least tells: whether the model is little and not too great; then what it is -/
def LeAns (w0 : World) (d : Ml.Wd) (l : List Ru) (b : List F) (e : Ending) (w' : World) : Prop := ∃ a m us q, e = .returned (.tuple #[.slice a (List.length us) m, .bool q]) ∧ Lies w' a m us ∧ EQ w0 w' us ∧ (q = true → Ml.LstF d l (sortF b) (some (us.map Fv.f)))

set_option maxRecDepth 100000 in
set_option maxHeartbeats 1000000 in
theorem least12_at (ha : Option Addr) (hc : Nat) (hs : List (List UInt8)) (na : Option Addr) (nc : Nat) (ns : List (List UInt8)) (ra : Option Addr) (rc : Nat) (rs : List Rv) (fa : Option Addr) (fc : Nat) (zs : List Fv) (w : World) (hi : RIn0 w ra rc rs ha hc hs na nc ns) (hf : Lies w fa fc zs) (hz : ∀ z ∈ zs, Fv.At w z) :
    Calls Tryz.prog 21 #[caseV ha hc hs na nc ns ra rc rs fa fc zs] w fun e w' => LeAns w ⟨hs, ns⟩ (rs.map Rv.r) (zs.map Fv.f) e w' ∧ Below w.heap.size w w' := by
  obtain ⟨h0, h1, A2⟩ := boxes2 w (.cells #[.slice ha hs.length hc, .slice na ns.length nc, .slice ra rs.length rc, .slice fa zs.length fc] 26) (.cells #[.slice ha hs.length hc, .slice na ns.length nc, .int .i64 0, .bool false] 31)
  have TL := hideP (rleast_at w (w.heap.size + 1) ra rc rs ha hc hs na nc ns fa fc zs ⟨0, false⟩ _ hi hf hz A2 (by omega) h1 c0_ok)
  have c2 : ((w.alloc (.cells #[.slice ha hs.length hc, .slice na ns.length nc, .slice ra rs.length rc, .slice fa zs.length fc] 26)).alloc (.cells #[.slice ha hs.length hc, .slice na ns.length nc, .int .i64 0, .bool false] 31)).cell? ⟨w.heap.size, 2, none⟩ = some (.slice ra rs.length rc) := by rw [heap_cell h0]; rfl
  have c3 : ((w.alloc (.cells #[.slice ha hs.length hc, .slice na ns.length nc, .slice ra rs.length rc, .slice fa zs.length fc] 26)).alloc (.cells #[.slice ha hs.length hc, .slice na ns.length nc, .int .i64 0, .bool false] 31)).cell? ⟨w.heap.size, 3, none⟩ = some (.slice fa zs.length fc) := by rw [heap_cell h0]; rfl
  have HA := hideP A2
  clear hi hf hz h0 h1 A2
  go_enter Tryz.func21, Tryz.ntmps21
  go_wp2_with fail
  refine TL.out.mono ?_
  rintro e w2 ⟨⟨a, m, us, o, cc, rfl, L2, E2, hu, WQ, R⟩, BT⟩
  have d3 : w2.cell? ⟨w.heap.size + 1, 3, none⟩ = some (.bool cc.heavy) := by rw [heap_cell WQ]; rfl
  have BW : Below w.heap.size w w2 := HA.out.trans (BT.lower (by omega) HA.out.size)
  have FIN : ∀ q : Bool, (q = true → cc.heavy = false ∧ errOf o = 0) → LeAns w ⟨hs, ns⟩ (rs.map Rv.r) (zs.map Fv.f) (.returned (.tuple #[.slice a (List.length us) m, .bool q])) w2 := fun q hq => ⟨a, m, us, q, rfl, L2, E2, fun e => by
    obtain ⟨e1, e2⟩ := hq e
    have h := (R.few (sortF_SS _) c0_ok e1).2
    cases o with
    | none => cases e2
    | some n => rw [hu]; exact h⟩
  have HF := hideP FIN
  clear FIN L2 E2 R hu TL WQ
  generalize errOf o = er at *
  cases hv : cc.heavy with
  | true =>
    rw [hv] at d3
    have H2 := hideP (HF.out false (fun h => by cases h))
    clear hv HF
    go_wp2_with fail
    go_ret2
    exact ⟨H2.out, BW⟩
  | false =>
    rw [hv] at d3
    have H2 := hideP (HF.out (er == 0) (fun h => ⟨hv, by simpa using h⟩))
    clear hv HF
    go_wp2_with fail
    go_ret2
    exact ⟨H2.out, BW⟩
end Go.Proofs.YtdehimbfcilhpaaGreatDoor

/-
  The program's parser in memory.
-/
namespace Go.Proofs.YtdehimbfcilhpaaGreatDoor
open Go.RowKit Go.Lib Go.Shelf

/-- the program's parser: the tokens that are still to be read, the text's length -/
structure PAt (w : World) (p E : Nat) (L : List Lx.Tok) : Prop where
  obj : ∃ a c, w.heap[p]? = some (.cells #[.slice a L.length c, .int .i64 (E : Int)] 92) ∧ RowT kT 119 w a c L
theorem PAt.below {w w' : World} {p E : Nat} {L : List Lx.Tok} (h : PAt w p E L) (hb : Below w.heap.size w w') : PAt w' p E L := by
  obtain ⟨a, c, h1, h2⟩ := h.obj
  exact ⟨a, c, below_heap hb h1, h2.safe (Safe.below hb)⟩
theorem PAt.lt {w : World} {p E : Nat} {L : List Lx.Tok} (h : PAt w p E L) : p < w.heap.size := by
  obtain ⟨a, c, h1, _⟩ := h.obj
  exact heap_lt h1
theorem PAt.safe {ty : TypeId} {w w' : World} {p E : Nat} {L : List Lx.Tok} (h : PAt w p E L) (hb : But p w w') (hn : ty ≠ 92) : Safe ty w w' := by
  obtain ⟨a, c, h1, _⟩ := h.obj
  exact Safe.but hb h1 hn
/-- something else turned, made by the call itself -/
theorem PAt.but {w w' : World} {p E g : Nat} {L : List Lx.Tok} {C : Array Value} {T : TypeId} (h : PAt w p E L) (hb : But g w w') (hg : w.heap[g]? = some (.cells C T)) (h1 : T ≠ 92) (h2 : T ≠ 119) : PAt w' p E L := by
  obtain ⟨a, c, q1, q2⟩ := h.obj
  exact ⟨a, c, Safe.but hb hg (Ne.symm h1) _ _ q1, q2.safe (Safe.but hb hg (Ne.symm h2))⟩
theorem PAt.grown {w w' : World} {p E base k n : Nat} {L : List Lx.Tok} {T : TypeId} {v : Value} {xs : List Value} (h : PAt w p E L) (ho : w.ownsRow base T k v n xs) (hg : w.grownBy w' v.ownBlock) (h1 : T ≠ 92) (h2 : T ≠ 119) : PAt w' p E L := by
  obtain ⟨a, c, q1, q2⟩ := h.obj
  exact ⟨a, c, Safe.grown ho hg (Ne.symm h1) _ _ q1, q2.safe (Safe.grown ho hg (Ne.symm h2))⟩

/-- how a parser gives up -/
def Pan (x : Nat × Int) : Ending := .panicked [{ v := .iface 94 (.agg #[.int .i64 (x.1 : Int), .int .i64 x.2]), recovered := false }]

/-- what a part of the parser does: by the mathematics' answer it hands back a value, the parser goes on behind it; or it gives up -/
def Does {α : Type} (p E : Nat) (w : World) (r : Ps.Rz α) (V : α → Value → World → Prop) (e : Ending) (w' : World) : Prop :=
  But p w w' ∧ match r with
  | .ok (v, L) => (∃ u, e = .returned u ∧ V v u w') ∧ PAt w' p E L
  | .error x => e = Pan x

theorem tokz : pz = Ps.tz := rfl
theorem row_tail {w : World} {b o c : Nat} {t : Lx.Tok} {L : List Lx.Tok} (h : RowT kT 119 w (some ⟨b, o, none⟩) c (t :: L)) : RowT kT 119 w (some ⟨b, o + 4, none⟩) (c - 1) L := by
  refine ⟨⟨?_, ?_, (fun h => by cases h), fun ad ha j u hu => ?_⟩, fun ad ha => ?_⟩
  · have := h.row.room; simp only [List.length_cons] at this; omega
  · have := h.row.few; simp only [List.length_cons] at this; omega
  · cases ha
    have := h.row.cells _ rfl (4 + j) u (by
      rw [List.flatMap_cons, List.getElem?_append_right (by rw [kT.len]; show 4 ≤ 4 + j; omega), kT.len]
      show (L.flatMap tokv)[4 + j - 4]? = some u
      rw [show 4 + j - 4 = j by omega]; exact hu)
    rw [Addr.add_lit] at this ⊢
    rw [← this, Nat.add_assoc]
  · cases ha
    exact h.tag ⟨b, o, none⟩ rfl
/-- the place of what is left, when one token is taken -/
def tl (b o c : Nat) : Addr := if c = 1 then ⟨b, o, none⟩ else ⟨b, o + 4, none⟩
theorem row_tl {w : World} {b o c : Nat} {t : Lx.Tok} {L : List Lx.Tok} (h : RowT kT 119 w (some ⟨b, o, none⟩) c (t :: L)) : RowT kT 119 w (some (tl b o c)) (c - 1) L := by
  unfold tl
  by_cases hc : c = 1
  · rw [if_pos hc]
    have hr := h.row.room
    simp only [List.length_cons] at hr
    have : L = [] := List.eq_nil_of_length_eq_zero (by omega)
    subst this
    exact ⟨⟨Nat.zero_le _, Nat.zero_le _, (fun h => by cases h), fun ad ha j u hu => by simp at hu⟩, fun ad ha => by cases ha; exact h.tag _ rfl⟩
  · rw [if_neg hc]; exact row_tail h
theorem slice1 (b o n c : Nat) (w : World) : (Instr.sliceAt 87 (.slice (some ⟨b, o, none⟩) (n + 1) c) (some (.int .i64 1)) none none).run Tryz.prog w = .ok (.slice (some (tl b o c)) n (c - 1)) w := by
  have hu : Tryz.prog.underlying 87 = some (.slice (Tryz.prog.elem 87)) := by kernel_rfl
  have hs : (sizeOf (Tryz.prog.elem 87)).run Tryz.prog w = .ok 4 w := by kernel_rfl
  rw [run_sliceAt_slice (h := hu), run_slice_l (ht := hu) (h0 := by decide) (h1 := by omega), hs]
  simp only [Result.andThen_ok, sliced, tl]
  have e : (1 : Int).toNat = 1 := rfl
  rw [e]
  by_cases hc : c = 1
  · rw [if_pos hc, if_pos hc]; simp
  · rw [if_neg hc, if_neg hc]; simp [Addr.add_lit]
end Go.Proofs.YtdehimbfcilhpaaGreatDoor

/-
  The program's functions of one token.
-/
namespace Go.Proofs.YtdehimbfcilhpaaGreatDoor
open Go.RowKit Go.Lib Go.Shelf

abbrev zT : Obj := .cells #[.int .i64 0, .string { data := #[] }, .int .i64 0, .int .i64 0] 119
abbrev tg (t : Lx.Tok) : Value := .agg #[.int .i64 t.kind, str t.text, .int .i64 t.n, .int .i64 (t.pl : Int)]
theorem tg_eq (t : Lx.Tok) : Value.agg (tokv t).toArray = tg t := rfl

set_option maxRecDepth 100000 in
set_option maxHeartbeats 1000000 in
theorem is_at (t : Lx.Tok) (k : Int) (s : List UInt8) (w : World) :
    Calls Tryz.prog 139 #[tg t, .int .i64 k, str s] w fun e w' => e = .returned (.bool (Ps.isT k s t)) ∧ Below w.heap.size w w' := by
  obtain ⟨kd, tx, n, pl⟩ := t
  simp only [Ps.isT]
  have B := below_alloc w (.cells #[.int .i64 kd, str tx, .int .i64 n, .int .i64 (pl : Int)] 119)
  by_cases h1 : kd = k
  · subst h1
    by_cases h2 : tx = s
    · subst h2
      go_enter Tryz.func139, Tryz.ntmps139
      go_wp2_with fail
      go_ret
      exact ⟨ret_bool (by simp), B⟩
    · have h3 : (tx == s) = false := by simpa using h2
      have HS := hideP h3
      clear h2 h3
      go_enter Tryz.func139, Tryz.ntmps139
      go_wp2_with fail
      go_ret
      exact ⟨ret_bool (by simp), B⟩
  · have h3 : (kd == k) = false := by simpa using h1
    go_enter Tryz.func139, Tryz.ntmps139
    go_wp2_with fail
    go_ret
    exact ⟨ret_bool (by simp [h3]), B⟩

set_option maxRecDepth 100000 in
set_option maxHeartbeats 1000000 in
theorem mayBePred_at (t : Lx.Tok) (w : World) :
    Calls Tryz.prog 136 #[tg t] w fun e w' => e = .returned (.bool (Ps.mayW t)) ∧ Below w.heap.size w w' := by
  obtain ⟨kd, tx, n, pl⟩ := t
  simp only [Ps.mayW, Ps.kept, Ps.says, Ps.to, Ps.at_]
  have B := below_alloc w (.cells #[.int .i64 kd, str tx, .int .i64 n, .int .i64 (pl : Int)] 119)
  go_enter Tryz.func136, Tryz.ntmps136
  go_wp2_with fail
  all_goals go_ret
  all_goals refine ⟨ret_bool ?_, below_alloc w _⟩
  all_goals (clear B; simp_all)

theorem mayT_eq (t : Lx.Tok) : Ps.mayT t = ((t.kind == 2) || (t.kind == 3) || ((t.kind == 4) && !(t.text == [])) || Ps.mayW t) := rfl
theorem mayW_kind {t : Lx.Tok} (h : Ps.mayW t = true) : t.kind = 1 := by
  simp only [Ps.mayW, Bool.and_eq_true, beq_iff_eq] at h; exact h.1
set_option maxRecDepth 100000 in
set_option maxHeartbeats 1000000 in
theorem mayBeTerm_at (t : Lx.Tok) (w : World) :
    Calls Tryz.prog 101 #[tg t] w fun e w' => e = .returned (.bool (Ps.mayT t)) ∧ Below w.heap.size w w' := by
  have HP := hideP (fun w => mayBePred_at t w)
  have HM := hideP (mayT_eq t)
  have HK := hideP (fun h => mayW_kind (t := t) h)
  generalize Ps.mayT t = r at *
  generalize Ps.mayW t = m at *
  obtain ⟨kd, tx, n, pl⟩ := t
  go_enter Tryz.func101, Tryz.ntmps101
  go_wp2_with (first
    | (go_at_call 136; refine (HP.out _).mono ?_; rintro e w1 ⟨rfl, b1⟩))
  all_goals go_ret
  all_goals refine ⟨ret_bool ?_, ?_⟩
  all_goals first
    | exact below_alloc w _
    | exact Below.then (below_alloc w _) b1
    | (rw [HM.out]; simp_all; done)
    | (have hk := HK.out; rw [HM.out]; cases m <;> simp_all; done)

theorem need1_at (t : Lx.Tok) (k : Int) (s : List UInt8) (a b : Nat) (w : World) (ha : w.cell? ⟨a, 0, none⟩ = some (.int .i64 k)) (hb : w.cell? ⟨b, 0, none⟩ = some (str s)) :
    Calls Tryz.prog 138 #[tg t, ptr a, ptr b] w fun e w' => e = .returned (.bool (Ps.isT k s t)) ∧ Below w.heap.size w w' := by
  have HI := hideP (fun w => is_at t k s w)
  generalize Ps.isT k s t = r at *
  have B := below_alloc w (.cells #[.int .i64 t.kind, str t.text, .int .i64 t.n, .int .i64 (t.pl : Int)] 119)
  have ha' := hb
  have ca : (w.alloc (.cells #[.int .i64 t.kind, str t.text, .int .i64 t.n, .int .i64 (t.pl : Int)] 119)).cell? ⟨a, 0, none⟩ = some (.int .i64 k) := by rw [B.cell (cell_block ha)]; exact ha
  have cb : (w.alloc (.cells #[.int .i64 t.kind, str t.text, .int .i64 t.n, .int .i64 (t.pl : Int)] 119)).cell? ⟨b, 0, none⟩ = some (str s) := by rw [B.cell (cell_block hb)]; exact hb
  obtain ⟨kd, tx, n, pl⟩ := t
  go_enter Tryz.func138, Tryz.ntmps138
  go_wp2_with (first
    | (go_at_call 139; refine (HI.out _).mono ?_; rintro e w1 ⟨rfl, b1⟩))
  go_ret
  exact ⟨rfl, Below.then B b1⟩

theorem tok_blk {w : World} {b : Nat} {t : Lx.Tok} (h : w.heap[b]? = some (.cells (tokv t).toArray 119)) :
    w.cell? ⟨b, 0, none⟩ = some (.int .i64 t.kind) ∧ w.cell? ⟨b, 1, none⟩ = some (str t.text) ∧ w.cell? ⟨b, 2, none⟩ = some (.int .i64 t.n) ∧ w.cell? ⟨b, 3, none⟩ = some (.int .i64 (t.pl : Int)) := by
  refine ⟨?_, ?_, ?_, ?_⟩ <;> (rw [heap_cell h]; rfl)
theorem PAt.cells {w : World} {p E : Nat} {L : List Lx.Tok} (h : PAt w p E L) : ∃ a c, w.cell? ⟨p, 0, none⟩ = some (.slice a L.length c) ∧ w.cell? ⟨p, 1, none⟩ = some (.int .i64 (E : Int)) ∧ RowT kT 119 w a c L := by
  obtain ⟨a, c, h1, h2⟩ := h.obj
  exact ⟨a, c, by rw [heap_cell h1]; rfl, by rw [heap_cell h1]; rfl, h2⟩
theorem hd_drop {L : List Lx.Tok} {k : Nat} (h : k < L.length) : Ps.hd (L.drop k) = L[k] := by rw [List.drop_eq_getElem_cons h]; rfl
theorem hd_over {L : List Lx.Tok} {k : Nat} (h : L.length ≤ k) : Ps.hd (L.drop k) = Ps.tz := by rw [List.drop_of_length_le h]; rfl

set_option maxRecDepth 100000 in
set_option maxHeartbeats 1000000 in
theorem ahead_at (p E k : Nat) (L : List Lx.Tok) (w : World) (h : PAt w p E L) :
    Calls Tryz.prog 102 #[ptr p, .int .i64 (k : Int)] w fun e w' => e = .returned (tg (Ps.hd (L.drop k))) ∧ Below w.heap.size w w' := by
  have iN : (Tryz.prog.info? 119).map (·.size) = some 4 := by kernel_rfl
  have B0 := below_alloc w zT
  obtain ⟨a, c, c0, c1, r0⟩ := (h.below B0).cells
  have few := r0.row.few
  have Z0 := heap_alloc_new w zT
  rcases Nat.lt_or_ge k L.length with hk | hk
  · have hk' : (k : Int) < (L.length : Int) := by omega
    have HH := hideP (hd_drop hk)
    obtain ⟨P1, O1, rfl⟩ := r0.row.addr (by omega)
    have RG := r0.row.range k hk
    generalize L[k] = t at *
    go_enter Tryz.func102, Tryz.ntmps102
    go_wp2_with (first
      | (refine wpList_load_mid rfl 119 _ rfl P1 (O1 + k * 4) rfl (tokv t) _ RG Tryz.underlying119 rfl iN ?_)
      | (refine wpList_store_all rfl 119 _ _ rfl w.heap.size 4 _ 119 (tokv t) rfl rfl Z0 rfl rfl iN rfl ?_; intro w3 V3 b3))
    refine bodyPost_ret (results_cell rfl rfl V3 Tryz.underlying119 rfl (by kernel_rfl)) rfl ⟨?_, below_tok b3⟩
    rw [HH.out]; rfl
  · have hk' : ¬ (k : Int) < (L.length : Int) := by omega
    have HH := hideP (hd_over hk)
    go_enter Tryz.func102, Tryz.ntmps102
    go_wp2_with (first
      | (refine wpList_store_all rfl 119 _ _ rfl w.heap.size 4 _ 119 (tokv Ps.tz) rfl rfl Z0 rfl rfl iN rfl ?_; intro w3 V3 b3))
    refine bodyPost_ret (results_cell rfl rfl V3 Tryz.underlying119 rfl (by kernel_rfl)) rfl ⟨?_, below_tok b3⟩
    rw [HH.out]; rfl
theorem ahead0 (p E : Nat) (L : List Lx.Tok) (w : World) (h : PAt w p E L) :
    Calls Tryz.prog 102 #[ptr p, .int .i64 0] w fun e w' => e = .returned (tg (Ps.hd L)) ∧ Below w.heap.size w w' := by
  have := ahead_at p E 0 L w h
  simpa using this
theorem ahead1 (p E : Nat) (L : List Lx.Tok) (w : World) (h : PAt w p E L) :
    Calls Tryz.prog 102 #[ptr p, .int .i64 1] w fun e w' => e = .returned (tg (Ps.hd L.tail)) ∧ Below w.heap.size w w' := by
  have := ahead_at p E 1 L w h
  rw [List.drop_one] at this
  exact this

set_option maxRecDepth 100000 in
set_option maxHeartbeats 1000000 in
theorem giveUp_at (p E : Nat) (er : Int) (L : List Lx.Tok) (w : World) (h : PAt w p E L) :
    Calls Tryz.prog 103 #[ptr p, .int .i64 er] w fun e w' => e = Pan (Ps.pl E L, er) ∧ w = w' := by
  obtain ⟨a, c, c0, c1, r0⟩ := h.cells
  cases L with
  | nil =>
    go_enter Tryz.func103, Tryz.ntmps103
    go_wp2_with fail
    exact ⟨rfl, rfl, rfl⟩
  | cons t L =>
    have few := r0.row.few
    obtain ⟨P1, O1, rfl⟩ := r0.row.addr (by simp)
    have RG := r0.row.range 0 (by simp) 3 _ rfl
    change w.cell? ⟨P1, O1 + 0 * 4 + 3, none⟩ = some (.int .i64 (t.pl : Int)) at RG
    rw [Nat.zero_mul, Nat.add_zero] at RG
    simp only [List.length_cons] at *
    have q1 : ((L.length + 1 : Nat) : Int) > 0 := by omega
    go_enter Tryz.func103, Tryz.ntmps103
    go_wp2_with fail
    exact ⟨rfl, rfl, rfl⟩
end Go.Proofs.YtdehimbfcilhpaaGreatDoor

/-
  The program's parser: one token more, or none; a term.
-/
namespace Go.Proofs.YtdehimbfcilhpaaGreatDoor
open Go.RowKit Go.Lib Go.Shelf

theorem enter_pred (args : Array Value) (w : World) : (callFunc 136 args).run Tryz.prog w = .ok (.enter 136 args) w := enters_of Tryz.func136 (by kernel_rfl) rfl args w
theorem enter_term (args : Array Value) (w : World) : (callFunc 101 args).run Tryz.prog w = .ok (.enter 101 args) w := enters_of Tryz.func101 (by kernel_rfl) rfl args w
theorem enter_need (args : Array Value) (w : World) : (callFunc 138 args).run Tryz.prog w = .ok (.enter 138 args) w := enters_of Tryz.func138 (by kernel_rfl) rfl args w

theorem PAt.took {w w' : World} {p E b o c : Nat} {t : Lx.Tok} {L : List Lx.Tok} (hp : w.heap[p]? = some (.cells #[.slice (some ⟨b, o, none⟩) (L.length + 1) c, .int .i64 (E : Int)] 92)) (r : RowT kT 119 w (some ⟨b, o, none⟩) c (t :: L))
    (hb : But p w w') (h' : w'.heap[p]? = some (.cells #[.slice (some (tl b o c)) L.length (c - 1), .int .i64 (E : Int)] 92)) : PAt w' p E L :=
  ⟨_, _, h', (row_tl r).safe (Safe.but hb hp (by decide))⟩

set_option maxRecDepth 100000 in
set_option maxHeartbeats 1000000 in
theorem takeF_yes (F : Nat) (f : Lx.Tok → Bool) (hE : ∀ args w, (callFunc F args).run Tryz.prog w = .ok (.enter F args) w) (hF : ∀ t w, Calls Tryz.prog F #[tg t] w fun e w' => e = .returned (.bool (f t)) ∧ Below w.heap.size w w')
    (p E : Nat) (t : Lx.Tok) (L : List Lx.Tok) (w : World) (h : PAt w p E (t :: L)) (hf : f t = true) :
    Calls Tryz.prog 137 #[ptr p, .func (.func F) #[] #[]] w fun e w' => e = .returned (tg t) ∧ PAt w' p E L ∧ But p w w' := by
  have iN : (Tryz.prog.info? 119).map (·.size) = some 4 := by kernel_rfl
  have hF1 := hF t
  rw [hf] at hF1
  have HF := hideP hF1
  clear hF hF1 hf
  have HA := hideP (fun w h => ahead0 p E (t :: L) w h)
  have hp := h.lt
  obtain ⟨a, c, H0, r0⟩ := h.obj
  obtain ⟨P1, O1, rfl⟩ := r0.row.addr (by simp)
  simp only [List.length_cons] at H0
  have few := r0.row.few
  simp only [List.length_cons] at few
  have HS := fun w => slice1 P1 O1 L.length c w
  have B0 := below_alloc w zT
  have Z0 := heap_alloc_new w zT
  go_enter Tryz.func137, Tryz.ntmps137
  go_wp2_with fail
  refine (HA.out _ (h.below B0)).mono ?_
  rintro e w1 ⟨rfl, b1⟩
  have B1 := Below.then B0 b1
  have Z1 := below_heap b1 Z0
  change w1.heap[w.heap.size]? = some zT at Z1
  have s1 := B1.size
  have s2 := heap_lt Z1
  have V1 := heap_alloc_new w1 zT
  simp only [Ps.hd]
  go_wp2_with (first
    | (refine wpList_store_all rfl 119 _ _ rfl w1.heap.size 4 _ 119 (tokv t) rfl rfl V1 rfl rfl iN rfl ?_; intro w2 V2 b2; have B2 := Below.then B1 (below_tok b2); have Z2 := below_heap (below_tok b2) Z1)
    | (refine wpList_load_all rfl 119 _ rfl w1.heap.size 4 119 (tokv t) _ rfl V2 rfl Tryz.underlying119 rfl iN ?_)
    | (refine (HF.out _).mono ?_; rintro e w3 ⟨rfl, b3⟩; have B3 := Below.then B2 b3; have Z3 := below_heap b3 Z2; have V3 := below_heap b3 V2; have H3 := below_heap B3 H0; have c3 : w3.cell? ⟨p, 0, none⟩ = some (.slice (some ⟨P1, O1, none⟩) (L.length + 1) c) := (by rw [heap_cell H3]; rfl))
    | (refine wpList_store_cel rfl 87 _ _ rfl p 0 2 92 (.slice (some (tl P1 O1 c)) L.length (c - 1)) #[.slice (some (tl P1 O1 c)) L.length (c - 1), .int .i64 (E : Int)] rfl rfl H3 rfl (by decide) (by kernel_rfl) rfl rfl ?_; intro w4 V4 b4; have Z4 := b4.heap (show w.heap.size ≠ p by omega) Z3; have U4 := b4.heap (show w1.heap.size ≠ p by omega) V3)
    | (refine wpList_load_all rfl 119 _ rfl w1.heap.size 4 119 (tokv t) _ rfl U4 rfl Tryz.underlying119 rfl iN ?_)
    | (refine wpList_store_all rfl 119 _ _ rfl w.heap.size 4 _ 119 (tokv t) rfl rfl Z4 rfl rfl iN rfl ?_; intro w5 V5 b5))
  have hb : But p w w5 := ((But.of_below B3).trans b4).fresh b5 (Nat.le_refl _)
  exact bodyPost_ret (results_cell rfl rfl V5 Tryz.underlying119 rfl (by kernel_rfl)) rfl ⟨rfl, PAt.took H0 r0 hb (b5.heap (by omega) V4), hb⟩

set_option maxRecDepth 100000 in
set_option maxHeartbeats 1000000 in
theorem takeF_no (F : Nat) (f : Lx.Tok → Bool) (hE : ∀ args w, (callFunc F args).run Tryz.prog w = .ok (.enter F args) w) (hF : ∀ t w, Calls Tryz.prog F #[tg t] w fun e w' => e = .returned (.bool (f t)) ∧ Below w.heap.size w w')
    (p E : Nat) (L : List Lx.Tok) (w : World) (h : PAt w p E L) (hf : f (Ps.hd L) = false) :
    Calls Tryz.prog 137 #[ptr p, .func (.func F) #[] #[]] w fun e w' => e = Pan (Ps.bad E L) ∧ But p w w' := by
  have iN : (Tryz.prog.info? 119).map (·.size) = some 4 := by kernel_rfl
  have hF1 := hF (Ps.hd L)
  rw [hf] at hF1
  have HF := hideP hF1
  clear hF hF1 hf
  have HA := hideP (fun w h => ahead0 p E L w h)
  have HG := hideP (fun w h => giveUp_at p E 80 L w h)
  generalize Ps.hd L = t at *
  have B0 := below_alloc w zT
  go_enter Tryz.func137, Tryz.ntmps137
  go_wp2_with fail
  refine (HA.out _ (h.below B0)).mono ?_
  rintro e w1 ⟨rfl, b1⟩
  have B1 := Below.then B0 b1
  have V1 := heap_alloc_new w1 zT
  go_wp2_with (first
    | (refine wpList_store_all rfl 119 _ _ rfl w1.heap.size 4 _ 119 (tokv t) rfl rfl V1 rfl rfl iN rfl ?_; intro w2 V2 b2; have B2 := Below.then B1 (below_tok b2))
    | (refine wpList_load_all rfl 119 _ rfl w1.heap.size 4 119 (tokv t) _ rfl V2 rfl Tryz.underlying119 rfl iN ?_)
    | (go_at_call 103; refine (HG.out _ (h.below B3)).mono ?_; rintro e w4 ⟨rfl, rfl⟩; simp only [Pan])
    | (refine (HF.out _).mono ?_; rintro e w3 ⟨rfl, b3⟩; have B3 := Below.then B2 b3))
  exact ⟨rfl, rfl, But.of_below B3⟩

set_option maxRecDepth 100000 in
set_option maxHeartbeats 1000000 in
theorem takeN_yes (k : Int) (s : List UInt8) (ka sa : Nat)
    (p E : Nat) (t : Lx.Tok) (L : List Lx.Tok) (w : World) (h : PAt w p E (t :: L)) (hk : w.cell? ⟨ka, 0, none⟩ = some (.int .i64 k)) (hs : w.cell? ⟨sa, 0, none⟩ = some (str s)) (hf : Ps.isT k s t = true) :
    Calls Tryz.prog 137 #[ptr p, .func (.func 138) #[] #[ptr ka, ptr sa]] w fun e w' => e = .returned (tg t) ∧ PAt w' p E L ∧ But p w w' := by
  have iN : (Tryz.prog.info? 119).map (·.size) = some 4 := by kernel_rfl
  have hE := enter_need
  have HF := hideP (fun W (hB : Below w.heap.size w W) => need1_at t k s ka sa W ((hB.cell (cell_block hk)).trans hk) ((hB.cell (cell_block hs)).trans hs))
  rw [hf] at HF
  clear hf hk hs
  have HA := hideP (fun w h => ahead0 p E (t :: L) w h)
  have hp := h.lt
  obtain ⟨a, c, H0, r0⟩ := h.obj
  obtain ⟨P1, O1, rfl⟩ := r0.row.addr (by simp)
  simp only [List.length_cons] at H0
  have few := r0.row.few
  simp only [List.length_cons] at few
  have HS := fun w => slice1 P1 O1 L.length c w
  have B0 := below_alloc w zT
  have Z0 := heap_alloc_new w zT
  go_enter Tryz.func137, Tryz.ntmps137
  go_wp2_with fail
  refine (HA.out _ (h.below B0)).mono ?_
  rintro e w1 ⟨rfl, b1⟩
  have B1 := Below.then B0 b1
  have Z1 := below_heap b1 Z0
  change w1.heap[w.heap.size]? = some zT at Z1
  have s1 := B1.size
  have s2 := heap_lt Z1
  have V1 := heap_alloc_new w1 zT
  simp only [Ps.hd]
  go_wp2_with (first
    | (refine wpList_store_all rfl 119 _ _ rfl w1.heap.size 4 _ 119 (tokv t) rfl rfl V1 rfl rfl iN rfl ?_; intro w2 V2 b2; have B2 := Below.then B1 (below_tok b2); have Z2 := below_heap (below_tok b2) Z1)
    | (refine wpList_load_all rfl 119 _ rfl w1.heap.size 4 119 (tokv t) _ rfl V2 rfl Tryz.underlying119 rfl iN ?_)
    | (refine (HF.out _ B2).mono ?_; rintro e w3 ⟨rfl, b3⟩; have B3 := Below.then B2 b3; have Z3 := below_heap b3 Z2; have V3 := below_heap b3 V2; have H3 := below_heap B3 H0; have c3 : w3.cell? ⟨p, 0, none⟩ = some (.slice (some ⟨P1, O1, none⟩) (L.length + 1) c) := (by rw [heap_cell H3]; rfl))
    | (refine wpList_store_cel rfl 87 _ _ rfl p 0 2 92 (.slice (some (tl P1 O1 c)) L.length (c - 1)) #[.slice (some (tl P1 O1 c)) L.length (c - 1), .int .i64 (E : Int)] rfl rfl H3 rfl (by decide) (by kernel_rfl) rfl rfl ?_; intro w4 V4 b4; have Z4 := b4.heap (show w.heap.size ≠ p by omega) Z3; have U4 := b4.heap (show w1.heap.size ≠ p by omega) V3)
    | (refine wpList_load_all rfl 119 _ rfl w1.heap.size 4 119 (tokv t) _ rfl U4 rfl Tryz.underlying119 rfl iN ?_)
    | (refine wpList_store_all rfl 119 _ _ rfl w.heap.size 4 _ 119 (tokv t) rfl rfl Z4 rfl rfl iN rfl ?_; intro w5 V5 b5))
  have hb : But p w w5 := ((But.of_below B3).trans b4).fresh b5 (Nat.le_refl _)
  exact bodyPost_ret (results_cell rfl rfl V5 Tryz.underlying119 rfl (by kernel_rfl)) rfl ⟨rfl, PAt.took H0 r0 hb (b5.heap (by omega) V4), hb⟩

set_option maxRecDepth 100000 in
set_option maxHeartbeats 1000000 in
theorem takeN_no (k : Int) (s : List UInt8) (ka sa : Nat)
    (p E : Nat) (L : List Lx.Tok) (w : World) (h : PAt w p E L) (hk : w.cell? ⟨ka, 0, none⟩ = some (.int .i64 k)) (hs : w.cell? ⟨sa, 0, none⟩ = some (str s)) (hf : Ps.isT k s (Ps.hd L) = false) :
    Calls Tryz.prog 137 #[ptr p, .func (.func 138) #[] #[ptr ka, ptr sa]] w fun e w' => e = Pan (Ps.bad E L) ∧ But p w w' := by
  have iN : (Tryz.prog.info? 119).map (·.size) = some 4 := by kernel_rfl
  have hE := enter_need
  have HF := hideP (fun W (hB : Below w.heap.size w W) => need1_at (Ps.hd L) k s ka sa W ((hB.cell (cell_block hk)).trans hk) ((hB.cell (cell_block hs)).trans hs))
  rw [hf] at HF
  clear hf hk hs
  have HA := hideP (fun w h => ahead0 p E L w h)
  have HG := hideP (fun w h => giveUp_at p E 80 L w h)
  generalize Ps.hd L = t at *
  have B0 := below_alloc w zT
  go_enter Tryz.func137, Tryz.ntmps137
  go_wp2_with fail
  refine (HA.out _ (h.below B0)).mono ?_
  rintro e w1 ⟨rfl, b1⟩
  have B1 := Below.then B0 b1
  have V1 := heap_alloc_new w1 zT
  go_wp2_with (first
    | (refine wpList_store_all rfl 119 _ _ rfl w1.heap.size 4 _ 119 (tokv t) rfl rfl V1 rfl rfl iN rfl ?_; intro w2 V2 b2; have B2 := Below.then B1 (below_tok b2))
    | (refine wpList_load_all rfl 119 _ rfl w1.heap.size 4 119 (tokv t) _ rfl V2 rfl Tryz.underlying119 rfl iN ?_)
    | (go_at_call 103; refine (HG.out _ (h.below B3)).mono ?_; rintro e w4 ⟨rfl, rfl⟩; simp only [Pan])
    | (refine (HF.out _ B2).mono ?_; rintro e w3 ⟨rfl, b3⟩; have B3 := Below.then B2 b3))
  exact ⟨rfl, rfl, But.of_below B3⟩

theorem need_split (E : Nat) (k : Int) (s : List UInt8) (L : List Lx.Tok) (hk : k ≠ 0) : (∃ t R, L = t :: R ∧ Ps.isT k s t = true ∧ Ps.need E k s L = .ok ((), R)) ∨ (Ps.isT k s (Ps.hd L) = false ∧ Ps.need E k s L = .error (Ps.bad E L)) := by
  unfold Ps.need
  by_cases h : Ps.isT k s (Ps.hd L) = true
  · rw [if_pos h]
    cases L with
    | nil => exact absurd rfl (Ps.hd_ne hk h)
    | cons t R => exact .inl ⟨t, R, rfl, h, rfl⟩
  · rw [if_neg h]; exact .inr ⟨by simpa using h, rfl⟩
theorem term_split (E : Nat) (L : List Lx.Tok) : (∃ t R, L = t :: R ∧ Ps.mayT t = true ∧ Ps.term E L = .ok (Ps.tm t, R)) ∨ (Ps.mayT (Ps.hd L) = false ∧ Ps.term E L = .error (Ps.bad E L)) := by
  unfold Ps.term
  by_cases h : Ps.mayT (Ps.hd L) = true
  · rw [if_pos h]
    cases L with
    | nil => exact absurd rfl (Ps.mayT_ne h)
    | cons t R => exact .inl ⟨t, R, rfl, h, rfl⟩
  · rw [if_neg h]; exact .inr ⟨by simpa using h, rfl⟩
theorem word_split (E : Nat) (L : List Lx.Tok) : (∃ t R, L = t :: R ∧ Ps.mayW t = true ∧ Ps.word E L = .ok (t.text, R)) ∨ (Ps.mayW (Ps.hd L) = false ∧ Ps.word E L = .error (Ps.bad E L)) := by
  unfold Ps.word
  by_cases h : Ps.mayW (Ps.hd L) = true
  · rw [if_pos h]
    cases L with
    | nil => exact absurd rfl (Ps.mayW_ne h)
    | cons t R => exact .inl ⟨t, R, rfl, h, rfl⟩
  · rw [if_neg h]; exact .inr ⟨by simpa using h, rfl⟩

theorem does_ok {α : Type} {p E : Nat} {w w' : World} {v : α} {L : List Lx.Tok} {V : α → Value → World → Prop} {u : Value} (hb : But p w w') (hv : V v u w') (hp : PAt w' p E L) : Does p E w (.ok (v, L)) V (.returned u) w' := ⟨hb, ⟨u, rfl, hv⟩, hp⟩
theorem does_no {α : Type} {p E : Nat} {w w' : World} {x : Nat × Int} {V : α → Value → World → Prop} (hb : But p w w') : Does p E w (.error x) V (Pan x) w' := ⟨hb, rfl⟩
def vUnit : Unit → Value → World → Prop := fun _ u _ => u = .tuple #[]
def vTerm : Tm → Value → World → Prop := fun t u _ => u = tval t

set_option maxRecDepth 100000 in
set_option maxHeartbeats 1000000 in
theorem need_at (p E : Nat) (k : Int) (s : List UInt8) (L : List Lx.Tok) (w : World) (h : PAt w p E L) (hk : k ≠ 0) :
    Calls Tryz.prog 105 #[ptr p, .int .i64 k, str s] w (Does p E w (Ps.need E k s L) vUnit) := by
  have hmf : ∀ (fn : Fn) (first cap : Array Value) (w : World), (Instr.makeFunc fn first cap).run Tryz.prog w = .ok (.func fn first cap) w := fun _ _ _ _ => rfl
  have B0 := Below.then (below_alloc w (.cells #[.int .i64 k] 3)) (below_alloc _ (.cells #[str s] 9))
  have c0 : ((w.alloc (.cells #[.int .i64 k] 3)).alloc (.cells #[str s] 9)).cell? ⟨w.heap.size, 0, none⟩ = some (.int .i64 k) := by
    rw [heap_cell (below_heap (below_alloc _ (.cells #[str s] 9)) (heap_alloc_new w _))]; rfl
  have c1 : ((w.alloc (.cells #[.int .i64 k] 3)).alloc (.cells #[str s] 9)).cell? ⟨w.heap.size + 1, 0, none⟩ = some (str s) := by
    have := heap_alloc_new (w.alloc (.cells #[.int .i64 k] 3)) (.cells #[str s] 9)
    rw [show (w.alloc (.cells #[.int .i64 k] 3)).heap.size = w.heap.size + 1 by simp] at this
    rw [heap_cell this]; rfl
  rcases need_split E k s L hk with ⟨t, R, rfl, ht, hn⟩ | ⟨ht, hn⟩
  · have T := hideP (takeN_yes k s w.heap.size (w.heap.size + 1) p E t R _ (h.below B0) c0 c1 ht)
    rw [hn]
    clear ht hn hk c0 c1
    go_enter Tryz.func105, Tryz.ntmps105
    go_wp2_with (first
      | (go_at_call 137; refine T.out.mono ?_; rintro e w1 ⟨rfl, p1, b1⟩))
    go_end0
    exact does_ok ((But.of_below B0).trans b1) rfl p1
  · have T := hideP (takeN_no k s w.heap.size (w.heap.size + 1) p E L _ (h.below B0) c0 c1 ht)
    rw [hn]
    clear ht hn hk c0 c1
    go_enter Tryz.func105, Tryz.ntmps105
    go_wp2_with (first
      | (go_at_call 137; refine T.out.mono ?_; rintro e w1 ⟨rfl, b1⟩; simp only [Pan]))
    exact ⟨rfl, does_no ((But.of_below B0).trans b1)⟩

set_option maxRecDepth 100000 in
set_option maxHeartbeats 1000000 in
theorem term_at (p E : Nat) (L : List Lx.Tok) (w : World) (h : PAt w p E L) :
    Calls Tryz.prog 104 #[ptr p] w (Does p E w (Ps.term E L) vTerm) := by
  have iN : (Tryz.prog.info? 119).map (·.size) = some 4 := by kernel_rfl
  have iT : (Tryz.prog.info? 58).map (·.size) = some 4 := by kernel_rfl
  have B0 := below_alloc w (.cells #[.string { data := #[] }, .bool false, .int .i64 0, .string { data := #[] }] 58)
  have Z0 := heap_alloc_new w (.cells #[.string { data := #[] }, .bool false, .int .i64 0, .string { data := #[] }] 58)
  have hp := h.lt
  rcases term_split E L with ⟨t, R, rfl, ht, hn⟩ | ⟨ht, hn⟩
  · have T := hideP (takeF_yes 101 Ps.mayT enter_term mayBeTerm_at p E t R _ (h.below B0) ht)
    rw [hn]
    clear ht hn
    obtain ⟨kd, tx, n, pl⟩ := t
    by_cases k2 : kd = 2
    · subst k2
      have HT := hideP (show vTerm (Ps.tm ⟨2, tx, n, pl⟩) (tval ⟨tx, k0⟩) w from rfl)
      go_enter Tryz.func104, Tryz.ntmps104
      go_wp2_with (first
        | (go_at_call 137; refine T.out.mono ?_; rintro e w1 ⟨rfl, p1, b1⟩; have Z1 := b1.heap (show w.heap.size ≠ p by omega) Z0; have s1 := heap_lt Z1; have V1 := heap_alloc_new w1 zT)
        | (refine wpList_store_all rfl 119 _ _ rfl w1.heap.size 4 _ 119 (tokv ⟨2, tx, n, pl⟩) rfl rfl V1 rfl rfl iN rfl ?_; intro w2 V2 b2; have Z2 := below_heap (below_tok b2) Z1; obtain ⟨x1, x2, x3, x4⟩ := tok_blk V2)
        | (refine wpList_store_all rfl 58 _ _ rfl w.heap.size 4 _ 58 (tv ⟨tx, k0⟩) rfl rfl Z2 rfl rfl iT rfl ?_; intro w5 V5 b5))
      have hb : But p w w5 := ((But.of_below B0).trans (b1.below (below_tok b2))).fresh b5 (Nat.le_refl _)
      exact bodyPost_ret (results_cell rfl rfl V5 Tryz.underlying58 rfl (by kernel_rfl)) rfl (does_ok hb HT.out ((p1.below (below_tok b2)).but b5 Z2 (by decide) (by decide)))
    by_cases k3 : kd = 3
    · subst k3
      have HT := hideP (show vTerm (Ps.tm ⟨3, tx, n, pl⟩) (tval ⟨[], ⟨true, n, []⟩⟩) w from rfl)
      clear k2
      go_enter Tryz.func104, Tryz.ntmps104
      go_wp2_with (first
        | (go_at_call 137; refine T.out.mono ?_; rintro e w1 ⟨rfl, p1, b1⟩; have Z1 := b1.heap (show w.heap.size ≠ p by omega) Z0; have s1 := heap_lt Z1; have V1 := heap_alloc_new w1 zT)
        | (refine wpList_store_all rfl 119 _ _ rfl w1.heap.size 4 _ 119 (tokv ⟨3, tx, n, pl⟩) rfl rfl V1 rfl rfl iN rfl ?_; intro w2 V2 b2; have Z2 := below_heap (below_tok b2) Z1; obtain ⟨x1, x2, x3, x4⟩ := tok_blk V2)
        | (refine wpList_store_all rfl 58 _ _ rfl w.heap.size 4 _ 58 (tv ⟨[], ⟨true, n, []⟩⟩) rfl rfl Z2 rfl rfl iT rfl ?_; intro w5 V5 b5))
      have hb : But p w w5 := ((But.of_below B0).trans (b1.below (below_tok b2))).fresh b5 (Nat.le_refl _)
      exact bodyPost_ret (results_cell rfl rfl V5 Tryz.underlying58 rfl (by kernel_rfl)) rfl (does_ok hb HT.out ((p1.below (below_tok b2)).but b5 Z2 (by decide) (by decide)))
    · have HT := hideP (show vTerm (Ps.tm ⟨kd, tx, n, pl⟩) (tval ⟨[], ⟨false, 0, tx⟩⟩) w by unfold vTerm Ps.tm; rw [if_neg k2, if_neg k3])
      go_enter Tryz.func104, Tryz.ntmps104
      go_wp2_with (first
        | (go_at_call 137; refine T.out.mono ?_; rintro e w1 ⟨rfl, p1, b1⟩; have Z1 := b1.heap (show w.heap.size ≠ p by omega) Z0; have s1 := heap_lt Z1; have V1 := heap_alloc_new w1 zT)
        | (refine wpList_store_all rfl 119 _ _ rfl w1.heap.size 4 _ 119 (tokv ⟨kd, tx, n, pl⟩) rfl rfl V1 rfl rfl iN rfl ?_; intro w2 V2 b2; have Z2 := below_heap (below_tok b2) Z1; obtain ⟨x1, x2, x3, x4⟩ := tok_blk V2)
        | (refine wpList_store_all rfl 58 _ _ rfl w.heap.size 4 _ 58 (tv ⟨[], ⟨false, 0, tx⟩⟩) rfl rfl Z2 rfl rfl iT rfl ?_; intro w5 V5 b5))
      have hb : But p w w5 := ((But.of_below B0).trans (b1.below (below_tok b2))).fresh b5 (Nat.le_refl _)
      exact bodyPost_ret (results_cell rfl rfl V5 Tryz.underlying58 rfl (by kernel_rfl)) rfl (does_ok hb HT.out ((p1.below (below_tok b2)).but b5 Z2 (by decide) (by decide)))
  · have T := hideP (takeF_no 101 Ps.mayT enter_term mayBeTerm_at p E L _ (h.below B0) ht)
    rw [hn]
    clear ht hn
    go_enter Tryz.func104, Tryz.ntmps104
    go_wp2_with (first
      | (go_at_call 137; refine T.out.mono ?_; rintro e w1 ⟨rfl, b1⟩; simp only [Pan]))
    exact ⟨rfl, does_no ((But.of_below B0).trans b1)⟩

/-- one token more, if it is that one -/
def tookR (k : Int) (s : List UInt8) (L : List Lx.Tok) : Bool × List Lx.Tok := if Ps.isT k s (Ps.hd L) = true then (true, L.tail) else (false, L)
set_option maxRecDepth 100000 in
set_option maxHeartbeats 1000000 in
theorem took_yes (p E : Nat) (k : Int) (s : List UInt8) (t : Lx.Tok) (L : List Lx.Tok) (w : World) (h : PAt w p E (t :: L)) (ht : Ps.isT k s t = true) :
    Calls Tryz.prog 107 #[ptr p, .int .i64 k, str s] w fun e w' => e = .returned (.bool true) ∧ PAt w' p E L ∧ But p w w' := by
  have HA := hideP (ahead0 p E (t :: L) w h)
  have HI := hideP (fun w => is_at t k s w)
  rw [ht] at HI
  obtain ⟨a, c, H0, r0⟩ := h.obj
  obtain ⟨P1, O1, rfl⟩ := r0.row.addr (by simp)
  simp only [List.length_cons] at H0
  have few := r0.row.few
  simp only [List.length_cons] at few
  have HS := fun w => slice1 P1 O1 L.length c w
  clear ht
  go_enter Tryz.func107, Tryz.ntmps107
  go_wp2_with fail
  refine HA.out.mono ?_
  rintro e w1 ⟨rfl, b1⟩
  simp only [Ps.hd]
  go_wp2_with (first
    | (go_at_call 139; refine (HI.out _).mono ?_; rintro e w3 ⟨rfl, b3⟩; have B3 := Below.then b1 b3; have H3 := below_heap B3 H0; have c3 : w3.cell? ⟨p, 0, none⟩ = some (.slice (some ⟨P1, O1, none⟩) (L.length + 1) c) := (by rw [heap_cell H3]; rfl))
    | (refine wpList_store_cel rfl 87 _ _ rfl p 0 2 92 (.slice (some (tl P1 O1 c)) L.length (c - 1)) #[.slice (some (tl P1 O1 c)) L.length (c - 1), .int .i64 (E : Int)] rfl rfl H3 rfl (by decide) (by kernel_rfl) rfl rfl ?_; intro w4 V4 b4))
  go_ret
  have hb : But p w w4 := (But.of_below B3).trans b4
  exact ⟨rfl, PAt.took H0 r0 hb V4, hb⟩
set_option maxRecDepth 100000 in
set_option maxHeartbeats 1000000 in
theorem took_no (p E : Nat) (k : Int) (s : List UInt8) (L : List Lx.Tok) (w : World) (h : PAt w p E L) (ht : Ps.isT k s (Ps.hd L) = false) :
    Calls Tryz.prog 107 #[ptr p, .int .i64 k, str s] w fun e w' => e = .returned (.bool false) ∧ Below w.heap.size w w' := by
  have HA := hideP (ahead0 p E L w h)
  have HI := hideP (fun w => is_at (Ps.hd L) k s w)
  rw [ht] at HI
  clear ht
  generalize Ps.hd L = t at *
  go_enter Tryz.func107, Tryz.ntmps107
  go_wp2_with fail
  refine HA.out.mono ?_
  rintro e w1 ⟨rfl, b1⟩
  go_wp2_with (first
    | (go_at_call 139; refine (HI.out _).mono ?_; rintro e w3 ⟨rfl, b3⟩))
  go_ret
  exact ⟨rfl, Below.then b1 b3⟩
theorem took_at (p E : Nat) (k : Int) (s : List UInt8) (L : List Lx.Tok) (w : World) (h : PAt w p E L) (hk : k ≠ 0) :
    Calls Tryz.prog 107 #[ptr p, .int .i64 k, str s] w fun e w' => e = .returned (.bool (tookR k s L).1) ∧ PAt w' p E (tookR k s L).2 ∧ But p w w' := by
  unfold tookR
  by_cases ht : Ps.isT k s (Ps.hd L) = true
  · rw [if_pos ht]
    cases L with
    | nil => exact absurd rfl (Ps.hd_ne hk ht)
    | cons t L => exact took_yes p E k s t L w h ht
  · rw [if_neg ht]
    refine (took_no p E k s L w h (by simpa using ht)).mono ?_
    rintro e w' ⟨rfl, hb⟩
    exact ⟨rfl, h.below hb, But.of_below hb⟩

set_option maxRecDepth 100000 in
set_option maxHeartbeats 1000000 in
theorem allow_few (p : Nat) (n m : Int) (w : World) (hn : ¬ n = m) :
    Calls Tryz.prog 74 #[ptr p, .int .i64 n, .int .i64 m] w fun e w' => e = .returned (.tuple #[]) ∧ w = w' := by
  have hq : (n == m) = false := by simpa using hn
  go_enter Tryz.func74, Tryz.ntmps74
  go_wp2_with fail
  go_end0
  exact ⟨rfl, rfl⟩
set_option maxRecDepth 100000 in
set_option maxHeartbeats 1000000 in
theorem allow_full (p E : Nat) (m : Int) (L : List Lx.Tok) (w : World) (h : PAt w p E L) :
    Calls Tryz.prog 74 #[ptr p, .int .i64 m, .int .i64 m] w fun e w' => Below w.heap.size w w' ∧ if Ps.mayT (Ps.hd L) = true then e = Pan (Ps.many E L) else e = .returned (.tuple #[]) := by
  have HA := hideP (ahead0 p E L w h)
  have HT := hideP (fun w => mayBeTerm_at (Ps.hd L) w)
  have HG := hideP (fun w h => giveUp_at p E 81 L w h)
  have HM := hideP (fun hm : Ps.mayT (Ps.hd L) = true => show (Ps.pl E L, (81 : Int)) = Ps.many E L by unfold Ps.many; rw [if_pos hm])
  generalize Ps.hd L = t at *
  generalize Ps.mayT t = b at *
  go_enter Tryz.func74, Tryz.ntmps74
  go_wp2_with fail
  refine HA.out.mono ?_
  rintro e w1 ⟨rfl, b1⟩
  cases b
  · go_wp2_with (first
      | (go_at_call 101; refine (HT.out _).mono ?_; rintro e w3 ⟨rfl, b3⟩; have B3 := Below.then b1 b3))
    go_end0
    exact ⟨B3, by simp⟩
  · go_wp2_with (first
      | (go_at_call 101; refine (HT.out _).mono ?_; rintro e w3 ⟨rfl, b3⟩; have B3 := Below.then b1 b3)
      | (go_at_call 103; refine (HG.out _ (h.below B3)).mono ?_; rintro e w4 ⟨rfl, rfl⟩; simp only [Pan]))
    refine ⟨rfl, B3, ?_⟩
    rw [← HM.out trivial]; rfl
end Go.Proofs.YtdehimbfcilhpaaGreatDoor
