/-
  Which chunks may be, how many bytes a chunk has, as package chunk tells it.
  Conditions: the numbers lie within their kinds, the cells hold them.
-/
import Derived.Test.YtifdkpifambhaaaChD
import Derived.Test.YtifdkpifambhaaaParK
import Derived.Deep.CutRange
import Derived.Deep.DeepCutAuto
namespace Go.Proofs.Ytifdkpifambhaaa.Chu
open Go.ChangeShapes Go.WideShapes Go.ChangeAt Go.RowKit
open Par (hidden Bytes Row Prm Prms cell_lt)
set_option linter.unusedVariables false
attribute [local go_sem ↓] execOp_ld execOp_bx execOp_st
attribute [local go_sem] run_box cc_0 cc_1 cc_2 cc_3 cc_4 cc_5 cc_6 cc_7 cc_8 cc_9 cc_10 cc_11 cc_12 cc_13 cc_14

/-- no flags but those that count -/
def FlagOk (k f : Int) : Prop := if k = 0 then f < 8 else if k = 6 ∨ k = 14 then f < 2 else if k = 1 ∨ k = 2 ∨ k = 3 ∨ k = 16 ∨ k = 4 ∨ k = 5 ∨ k = 9 ∨ k = 7 ∨ k = 8 ∨ k = 10 ∨ k = 11 then f = 0 else True
/-- no fields but those of its kind -/
def FieldOk (v : Ch) : Prop :=
  (v.tsn = 0 ∨ v.kind = 0 ∨ v.kind = 1 ∨ v.kind = 2 ∨ v.kind = 3 ∨ v.kind = 7 ∨ v.kind = 16) ∧ (v.stream = 0 ∨ v.kind = 0) ∧ (v.ssn = 0 ∨ v.kind = 0) ∧ (v.proto = 0 ∨ v.kind = 0) ∧
  (v.tag = 0 ∨ v.kind = 1 ∨ v.kind = 2) ∧ (v.win = 0 ∨ v.kind = 1 ∨ v.kind = 2 ∨ v.kind = 3 ∨ v.kind = 16) ∧ (v.out = 0 ∨ v.kind = 1 ∨ v.kind = 2) ∧ (v.inn = 0 ∨ v.kind = 1 ∨ v.kind = 2) ∧
  (v.gs = [] ∨ v.kind = 3 ∨ v.kind = 16) ∧ (v.ns = [] ∨ v.kind = 16) ∧ (v.ds = [] ∨ v.kind = 3 ∨ v.kind = 16) ∧
  (v.bs = [] ∨ ¬ (v.kind = 1 ∨ v.kind = 2 ∨ v.kind = 3 ∨ v.kind = 4 ∨ v.kind = 5 ∨ v.kind = 6 ∨ v.kind = 7 ∨ v.kind = 8 ∨ v.kind = 9 ∨ v.kind = 11 ∨ v.kind = 14 ∨ v.kind = 16)) ∧
  (v.ps = [] ∨ v.kind = 1 ∨ v.kind = 2 ∨ v.kind = 4 ∨ v.kind = 5 ∨ v.kind = 6 ∨ v.kind = 9)
def OwnF (v : Ch) : Prop := FlagOk v.kind v.flags ∧ FieldOk v
theorem off7 (f : Int) (h0 : 0 ≤ f) (h1 : f < 256) : bits .andNot .u8 f 7 = 0 ↔ f < 8 := by
  obtain ⟨n, rfl⟩ : ∃ n : Nat, f = n := ⟨f.toNat, by omega⟩
  have : ∀ n : Fin 256, bits .andNot .u8 (n.val : Int) 7 = 0 ↔ (n.val : Int) < 8 := by decide +kernel
  exact this ⟨n, by omega⟩
theorem off1 (f : Int) (h0 : 0 ≤ f) (h1 : f < 256) : bits .andNot .u8 f 1 = 0 ↔ f < 2 := by
  obtain ⟨n, rfl⟩ : ∃ n : Nat, f = n := ⟨f.toNat, by omega⟩
  have : ∀ n : Fin 256, bits .andNot .u8 (n.val : Int) 1 = 0 ↔ (n.val : Int) < 2 := by decide +kernel
  exact this ⟨n, by omega⟩
theorem off0 (f : Int) (h0 : 0 ≤ f) (h1 : f < 256) : bits .andNot .u8 f 0 = 0 ↔ f = 0 := by
  obtain ⟨n, rfl⟩ : ∃ n : Nat, f = n := ⟨f.toNat, by omega⟩
  have : ∀ n : Fin 256, bits .andNot .u8 (n.val : Int) 0 = 0 ↔ (n.val : Int) = 0 := by decide +kernel
  exact this ⟨n, by omega⟩
theorem off255 (f : Int) (h0 : 0 ≤ f) (h1 : f < 256) : bits .andNot .u8 f 255 = 0 := by
  obtain ⟨n, rfl⟩ : ∃ n : Nat, f = n := ⟨f.toNat, by omega⟩
  have : ∀ n : Fin 256, bits .andNot .u8 (n.val : Int) 255 = 0 := by decide +kernel
  exact this ⟨n, by omega⟩
theorem off_iff (k f : Int) (h0 : 0 ≤ f) (h1 : f < 256) : offF f k = 0 ↔ FlagOk k f := by
  unfold offF cnt FlagOk
  by_cases a : k = 0
  · simp only [if_pos a]; exact off7 f h0 h1
  · simp only [if_neg a]
    by_cases b : k = 6 ∨ k = 14
    · simp only [if_pos b]; exact off1 f h0 h1
    · simp only [if_neg b]
      by_cases c : k = 1 ∨ k = 2 ∨ k = 3 ∨ k = 16 ∨ k = 4 ∨ k = 5 ∨ k = 9 ∨ k = 7 ∨ k = 8 ∨ k = 10 ∨ k = 11
      · simp only [if_pos c]; exact off0 f h0 h1
      · simp only [if_neg c]; simp [off255 f h0 h1]
set_option maxHeartbeats 2000000 in
theorem bes_iff (c : Ck) (hn : Nums c) : val (bes c) = val (zck c.kind) ↔ OwnF (val c) := by
  have hf := off_iff c.kind c.flags hn.2.1.1 hn.2.1.2
  unfold OwnF
  rw [show (val c).kind = c.kind from rfl, show (val c).flags = c.flags from rfl, ← hf]
  rcases kind_cases c.kind with hk | hk | hk | hk | hk | hk | hk | hk | hk | hk | hk | hk | hk | hk | hk
  all_goals first | (simp [bes, val, zck, FieldOk, hk]; done) | (obtain ⟨h0, h1, h2, h3, h4, h5, h6, h7, h8, h9, h10, h11, h14, h16⟩ := hk; simp [bes, val, zck, FieldOk, *]; done) | trace_state
/-- why Params are refused -/
def pcode (l : List (Int × List Int)) : Int := if 256 < l.length then 3 else if l.any (fun x => decide (65531 < x.2.length)) = true then 2 else 0
theorem long_val {base : Nat} {w : World} {ps : List Prm} (h : ∀ p ∈ ps, Par.One base w p) : Par.Long ps ↔ (ps.map Par.val).any (fun x => decide (65531 < x.2.length)) = true := by
  unfold Par.Long
  simp only [List.any_eq_true, List.mem_map, decide_eq_true_eq]
  constructor
  · rintro ⟨p, hp, hl⟩
    exact ⟨_, ⟨p, hp, rfl⟩, by rw [show (Par.val p).2.length = p.2.2.1 from (h p hp).2.1.1]; exact hl⟩
  · rintro ⟨_, ⟨p, hp, rfl⟩, hl⟩
    exact ⟨p, hp, by rw [show (Par.val p).2.length = p.2.2.1 from (h p hp).2.1.1] at hl; exact hl⟩
theorem code_val {base : Nat} {w : World} {ps : List Prm} {c : Int} (h : ∀ p ∈ ps, Par.One base w p) (hc : Par.code ps c) : c = pcode (ps.map Par.val) := by
  unfold pcode
  rw [List.length_map]
  rcases hc with ⟨h1, h2⟩ | ⟨h1, h2, h3⟩ | ⟨h1, h2, h3⟩
  · rw [if_pos h1]; exact h2
  · rw [if_neg (by omega), if_pos ((long_val h).1 h2)]; exact h3
  · rw [if_neg (by omega), if_neg (fun e => h2 ((long_val h).2 e))]; exact h3
def psz (l : List (Int × List Int)) : Nat := if pcode l = 0 then (Par.enc l).length else 0
/-- how many bytes a value has -/
def vlen (v : Ch) : Nat := nb v.kind + 4 * (v.gs.length + v.ns.length + v.ds.length) + psz v.ps + v.bs.length
theorem pcode_le {l : List (Int × List Int)} (h : pcode l = 0) : l.length ≤ 256 ∧ ∀ x ∈ l, x.2.length ≤ 65531 := by
  unfold pcode at h
  split at h
  · omega
  · split at h
    · omega
    · rename_i h1 h2
      refine ⟨by omega, fun x hx => ?_⟩
      rcases Nat.lt_or_ge 65531 x.2.length with h3 | h3
      · exact absurd (List.any_eq_true.2 ⟨x, hx, decide_eq_true h3⟩) h2
      · exact h3
theorem psz_le (l : List (Int × List Int)) : psz l ≤ 16777728 := by
  unfold psz
  split
  · rename_i h
    obtain ⟨h1, h2⟩ := pcode_le h
    have := Par.enc_le l h2
    calc _ ≤ l.length * 65538 := this
      _ ≤ 256 * 65538 := Nat.mul_le_mul_right _ h1
      _ ≤ _ := by decide
  · omega
theorem wrapS (z : Int) (h1 : -9223372036854775808 ≤ z) (h2 : z ≤ 9223372036854775807) : IntKind.i64.wrap z = z := by rw [IntKind.wrap_i64]; omega
theorem valueBytes (base : Nat) (c : Ck) (w : World) (hc : Chk base w c) : Calls Try.prog 31 #[cv c] w fun e w' => e = .returned (.int .i64 (vlen (val c) : Nat)) ∧ Below w.heap.size w w' := by
  obtain ⟨hnum, hg, hn, hd, hb, hbn, hp⟩ := hc
  have l1 := hg.1
  have l2 := hn.1
  have l3 := hd.1
  have l4 := hb.1
  have m1 := hg.2.1
  have m2 := hn.2.1
  have m3 := hd.2.1
  have m4 := hb.2.2.1
  have b1 := Bx.new w c
  have hbel := below_box w c
  have k0 := b1.c0
  have k10 := b1.c10
  have k11 := b1.c11
  have k12 := b1.c12
  have k13 := b1.c13
  have k14 := b1.c14
  have HP := hidden (hp.later hbel)
  have HON := hidden hp.2.2.1
  have hz := psz_le (c.ps.map Par.val)
  have HV := hidden (show vlen (val c) = nb c.kind + 4 * (c.gl + c.nl + c.dl) + psz (c.ps.map Par.val) + c.bl by unfold vlen; rw [← l1, ← l2, ← l3, ← l4]; rfl)
  have hnb : nb c.kind ≤ 16 := by unfold nb; split <;> (try split) <;> (try split) <;> omega
  clear hg hn hd hb hbn hp l1 l2 l3 l4
  go_enter Try.func31, Try.ntmps31
  go_wp2_with fail
  generalize w.alloc (.cells (cc c) 37) = W at *
  have HNB := hidden (numberBytes c.kind)
  have HSZ := hidden (show ∀ x : World, Below W.heap.size W x → Calls Try.prog 51 #[.slice c.pa c.pl c.pc] x fun e x' => e = .returned (.int .i64 (psz (c.ps.map Par.val) : Nat)) ∧ Below x.heap.size x x' ∧ Below W.heap.size W x' from
    fun x hx => (Par.size_ base x c.pa c.pl c.pc c.ps (HP.out.later hx)).mono (by
      rintro e x' ⟨cd, s, h1, h2, h3, rfl, b⟩
      refine ⟨?_, b, hx.trans (b.mono hx.size)⟩
      have e1 := code_val HON.out h1
      unfold psz
      rw [← e1]
      by_cases h0 : cd = 0
      · rw [if_pos h0, h3 h0]
      · rw [if_neg h0, h2 h0]; rfl))
  generalize nb c.kind = N at *
  generalize psz (c.ps.map Par.val) = Z at *
  have K0 := hidden k0
  have K13 := hidden k13
  have K14 := hidden k14
  have HH := hidden (show ∀ x : World, Below W.heap.size W x → x.cell? ⟨w.heap.size, 0, none⟩ = some (.int .u8 c.kind) ∧ x.cell? ⟨w.heap.size, 13, none⟩ = some (.slice c.ba c.bl c.bc) ∧ x.cell? ⟨w.heap.size, 14, none⟩ = some (.slice c.pa c.pl c.pc) ∧ Below W.heap.size W x from
    fun x hx => ⟨Par.keep_cell hx K0.out, Par.keep_cell hx K13.out, Par.keep_cell hx K14.out, hx⟩)
  obtain ⟨I, hI⟩ : ∃ I : Nat, (c.gl : Int) + c.nl + c.dl = (I : Int) := ⟨c.gl + c.nl + c.dl, by omega⟩
  have HI := hidden (show c.gl + c.nl + c.dl = I by omega)
  have hIl : I ≤ 422212465065984 := by omega
  simp only [hI]
  generalize c.bl = L at *
  clear k0 k10 k11 k12 k13 k14 m1 m2 m3 hI
  have HBL := hidden hbel
  clear hbel
  go_region_held3 (fun x => x.cell? ⟨w.heap.size, 0, none⟩ = some (.int .u8 c.kind) ∧ x.cell? ⟨w.heap.size, 13, none⟩ = some (.slice c.ba L c.bc) ∧ x.cell? ⟨w.heap.size, 14, none⟩ = some (.slice c.pa c.pl c.pc) ∧ Below W.heap.size W x)
    (first | (exact HH.out _ (Par.below_drew0 _)) | (exact HH.out _ (by assumption)) | (trace_state; fail))
    (first
      | (go_at_call 53; refine Calls.mono (HNB.out _) ?_; rintro e x ⟨rfl, rfl⟩)
      | (go_at_call 51; refine Calls.mono (HSZ.out _ ?_) ?_; (first | assumption | exact Par.below_drew0 _); rintro e x ⟨rfl, bx, hx⟩))
  go_wp2
  go_ret
  exact ⟨congrArg (fun z => Ending.returned (.int .i64 z)) (show IntKind.i64.wrap (IntKind.i64.wrap (IntKind.i64.wrap ((N : Int) + IntKind.i64.wrap (4 * (I : Int))) + (Z : Int)) + (L : Int)) = ((vlen (val c) : Nat) : Int) by
    rw [HV.out, wrapS (4 * (I : Int)) (by omega) (by omega), wrapS ((N : Int) + 4 * (I : Int)) (by omega) (by omega), wrapS ((N : Int) + 4 * (I : Int) + (Z : Int)) (by omega) (by omega), wrapS _ (by omega) (by omega)]
    have := HI.out
    omega), HBL.out.trans (hx.mono HBL.out.size)⟩
theorem vlen_le (base : Nat) (c : Ck) (w : World) (hc : Chk base w c) : vlen (val c) ≤ 2000000000000000 := by
  obtain ⟨hnum, hg, hn, hd, hb, hbn, hp⟩ := hc
  have l1 := hg.1
  have l2 := hn.1
  have l3 := hd.1
  have l4 := hb.1
  have m1 := hg.2.1
  have m2 := hn.2.1
  have m3 := hd.2.1
  have m4 := hb.2.2.1
  have hz := psz_le (c.ps.map Par.val)
  have hnb : nb c.kind ≤ 16 := by unfold nb; split <;> (try split) <;> (try split) <;> omega
  show nb c.kind + 4 * (c.gs.length + c.ns.length + c.ds.length) + psz (c.ps.map Par.val) + c.bs.length ≤ _
  omega
/-- how many bytes a chunk has -/
def clen (v : Ch) : Nat := Par.fill4 (4 + vlen v)
theorem wholeBytes (base : Nat) (c : Ck) (w : World) (hc : Chk base w c) : Calls Try.prog 23 #[cv c] w fun e w' => e = .returned (.int .i64 (clen (val c) : Nat)) ∧ Below w.heap.size w w' := by
  have hl := (Bx.new w c).ld
  have hb := below_box w c
  have hv := vlen_le base c w hc
  have V := hidden (valueBytes base c _ (hc.later hb))
  have HB := hidden hb
  clear hb hc
  go_enter Try.func23, Try.ntmps23
  go_wp2_with fail
  refine Calls.mono V.out ?_
  rintro e w1 ⟨rfl, b1⟩
  have F := hidden (filled (4 + vlen (val c)) (by omega) w1)
  have HB1 := hidden (HB.out.trans (b1.mono HB.out.size))
  clear V b1 hl
  rw [show ((4 + vlen (val c) : Nat) : Int) = 4 + (vlen (val c) : Int) by omega] at F
  go_wp2_with fail
  refine Calls.mono F.out ?_
  rintro e w2 ⟨rfl, rfl⟩
  go_wp2
  go_ret
  exact ⟨rfl, HB1.out⟩
open Classical in
/-- why a chunk may not be -/
noncomputable def chk (v : Ch) : Int :=
  if ¬ OwnF v then 63 else if v.kind = 0 ∧ v.bs = [] then 62 else if beat v.kind = true ∧ ¬ OneBeat v.ps then 61
  else if 4096 < v.gs.length ∨ 4096 < v.ns.length ∨ 4096 < v.ds.length then 3 else if pcode v.ps ≠ 0 then pcode v.ps else if 65531 < vlen v then 2 else 0
theorem nil_of_len {α : Type} {l : List α} (h : l.length = 0) : l = [] := List.eq_nil_of_length_eq_zero h
theorem zck_lsts (base : Nat) (k : Int) (w : World) : Lsts base w (zck k) := by
  exact ⟨Gaps.nil _ _ _, Gaps.nil _ _ _, Fours.nil _ _ _, ⟨rfl, (fun n hn => by cases hn), Nat.zero_le _, .inl rfl⟩, (fun _ => ⟨rfl, rfl⟩), Prms.nil _ _ _⟩
theorem bes_lsts {base : Nat} {w : World} {c : Ck} (h : Lsts base w c) : Lsts base w (bes c) := by
  obtain ⟨hg, hn, hd, hb, hbn, hp⟩ := h
  have g0 := Gaps.nil base w none
  have d0 := Fours.nil base w none
  have p0 := Prms.nil base w none
  have r0 : Row base w none 0 [] := ⟨rfl, (fun n hn => by cases hn), by decide, .inl rfl⟩
  have n0 : (none : Option Addr) = none → 0 = 0 ∧ 0 = 0 := fun _ => ⟨rfl, rfl⟩
  dsimp only [bes]
  split
  · exact ⟨g0, g0, d0, hb, hbn, hp⟩
  · split
    · exact ⟨g0, hn, d0, hb, hbn, hp⟩
    · split
      · exact ⟨hg, hn, hd, hb, hbn, hp⟩
      · split
        · exact ⟨hg, hn, hd, hb, hbn, hp⟩
        · split
          · exact ⟨hg, hn, hd, hb, hbn, p0⟩
          · split
            · exact ⟨hg, hn, hd, hb, hbn, p0⟩
            · split
              · exact ⟨hg, hn, hd, r0, n0, hp⟩
              · exact ⟨hg, hn, hd, r0, n0, hp⟩
theorem chk_63 {v : Ch} (h : ¬ OwnF v) : chk v = 63 := by unfold chk; rw [if_pos h]
theorem chk_62 {v : Ch} (h : OwnF v) (h1 : v.kind = 0 ∧ v.bs = []) : chk v = 62 := by unfold chk; rw [if_neg (fun g => g h), if_pos h1]
theorem chk_61 {v : Ch} (h : OwnF v) (h1 : ¬ (v.kind = 0 ∧ v.bs = [])) (h2 : beat v.kind = true ∧ ¬ OneBeat v.ps) : chk v = 61 := by unfold chk; rw [if_neg (fun g => g h), if_neg h1, if_pos h2]
/-- nothing against it up to its lists -/
def Past (v : Ch) : Prop := OwnF v ∧ ¬ (v.kind = 0 ∧ v.bs = []) ∧ ¬ (beat v.kind = true ∧ ¬ OneBeat v.ps)
theorem chk_3 {v : Ch} (h : Past v) (h1 : 4096 < v.gs.length ∨ 4096 < v.ns.length ∨ 4096 < v.ds.length) : chk v = 3 := by unfold chk; rw [if_neg (fun g => g h.1), if_neg h.2.1, if_neg h.2.2, if_pos h1]
theorem chk_p {v : Ch} (h : Past v) (h1 : ¬ (4096 < v.gs.length ∨ 4096 < v.ns.length ∨ 4096 < v.ds.length)) (h2 : pcode v.ps ≠ 0) : chk v = pcode v.ps := by unfold chk; rw [if_neg (fun g => g h.1), if_neg h.2.1, if_neg h.2.2, if_neg h1, if_pos h2]
theorem chk_2 {v : Ch} (h : Past v) (h1 : ¬ (4096 < v.gs.length ∨ 4096 < v.ns.length ∨ 4096 < v.ds.length)) (h2 : pcode v.ps = 0) (h3 : 65531 < vlen v) : chk v = 2 := by unfold chk; rw [if_neg (fun g => g h.1), if_neg h.2.1, if_neg h.2.2, if_neg h1, if_neg (fun g => g h2), if_pos h3]
theorem chk_0 {v : Ch} (h : Past v) (h1 : ¬ (4096 < v.gs.length ∨ 4096 < v.ns.length ∨ 4096 < v.ds.length)) (h2 : pcode v.ps = 0) (h3 : ¬ 65531 < vlen v) : chk v = 0 := by unfold chk; rw [if_neg (fun g => g h.1), if_neg h.2.1, if_neg h.2.2, if_neg h1, if_neg (fun g => g h2), if_neg h3]
theorem chk_ok {v : Ch} (h : chk v = 0) : Past v ∧ ¬ (4096 < v.gs.length ∨ 4096 < v.ns.length ∨ 4096 < v.ds.length) ∧ pcode v.ps = 0 ∧ ¬ 65531 < vlen v := by
  unfold chk at h
  split at h
  · omega
  · rename_i a0
    split at h
    · omega
    · rename_i a1
      split at h
      · omega
      · rename_i a2
        split at h
        · omega
        · rename_i a3
          split at h
          · rename_i a4; exact absurd h a4
          · rename_i a4
            split at h
            · omega
            · rename_i a5
              exact ⟨⟨Classical.not_not.1 a0, a1, a2⟩, a3, Classical.not_not.1 a4, a5⟩
theorem max3 (a b d : Int) : ∃ M : Int, (∀ (ts : Array TypeId) (t : TypeId) (w : World), (Builtin.max_ ts t #[.int .i64 a, .int .i64 b, .int .i64 d]).run Try.prog w = .ok (.int .i64 M) w) ∧ (4096 < M ↔ 4096 < a ∨ 4096 < b ∨ 4096 < d) := by
  refine ⟨if d > (if b > a then b else a) then d else (if b > a then b else a), fun ts t w => by simp [Builtin.max_, Builtin.max2], ?_⟩
  split <;> split <;> omega
theorem fin_i {k : IntKind} {x y : Int} {p : Prop} (h : x = y) (hp : p) : Ending.returned (.int k x) = Ending.returned (.int k y) ∧ p := ⟨by rw [h], hp⟩
set_option maxHeartbeats 4000000 in
theorem check (base : Nat) (c : Ck) (w : World) (hc : Chk base w c) : Calls Try.prog 12 #[cv c] w fun e w' => e = .returned (.int .i64 (chk (val c))) ∧ Below w.heap.size w w' := by
  have b1 := Bx.new w c
  have hb := below_box w c
  have HI := hidden (bes_iff c hc.1)
  have HC := hidden (hc.later hb)
  clear hc
  go_enter Try.func12, Try.ntmps12
  go_wp2_with fail
  generalize w.alloc (.cells (cc c) 37) = W at *
  have HB := hidden hb
  have H1 := hidden b1
  clear hb b1
  have HBE := hidden (show ∀ x : World, Below W.heap.size W x → Calls Try.prog 27 #[cv c] x fun e x' => e = .returned (cv (bes c)) ∧ Below W.heap.size W x' from
    fun x hx => (beside c x).mono (by rintro e x' ⟨rfl, b⟩; exact ⟨rfl, hx.trans (b.mono hx.size)⟩))
  have HSM := hidden (show ∀ x : World, Below W.heap.size W x → Calls Try.prog 22 #[cv (bes c), .agg #[.int .u8 c.kind, .int .u8 0, .int .u32 0, .int .u16 0, .int .u16 0, .int .u32 0, .int .u32 0, .int .u32 0, .int .u16 0, .int .u16 0, .slice none 0 0, .slice none 0 0, .slice none 0 0, .slice none 0 0, .slice none 0 0]] x fun e x' => ∃ t : Bool, e = .returned (.bool t) ∧ (t = true ↔ OwnF (val c)) ∧ Below W.heap.size W x' from
    fun x hx => (same base 0 x (bes c) (zck c.kind) (bes_lsts (HC.out.later hx).2) (zck_lsts 0 c.kind x)).mono (by
      rintro e x' ⟨t, rfl, ht, b⟩; exact ⟨t, rfl, ht.trans HI.out, hx.trans (b.mono hx.size)⟩))
  have HH := hidden (show ∀ x : World, Below W.heap.size W x → (ld (.pointer (some ⟨w.heap.size, 0, none⟩))).run Try.prog x = .ok (cv c) x ∧ x.cell? ⟨w.heap.size, 0, none⟩ = some (.int .u8 c.kind) ∧ Below W.heap.size W x from
    fun x hx => ⟨(H1.out.later hx).ld, (H1.out.later hx).c0, hx⟩)
  go_region_held3 (fun x => (ld (.pointer (some ⟨w.heap.size, 0, none⟩))).run Try.prog x = .ok (cv c) x ∧ x.cell? ⟨w.heap.size, 0, none⟩ = some (.int .u8 c.kind) ∧ Below W.heap.size W x)
    (first | (exact HH.out _ (Par.below_drew0 _)) | (exact HH.out _ (by assumption)) | (trace_state; fail))
    (first
      | (go_at_call 27; refine Calls.mono (HBE.out _ ?_) ?_; (first | assumption | exact Par.below_drew0 _); rintro e x1 ⟨rfl, hx1⟩)
      | (go_at_call 22; refine Calls.mono (HSM.out _ ?_) ?_; (first | assumption | exact Par.below_drew0 _); rintro e x2 ⟨t, rfl, ht, hx2⟩))
  rename_i hHeld
  have HT := hidden ht
  have HX2 := hidden hx2
  have H2 := hidden (H1.out.later hx2)
  have HG := hidden (show (val c).gs.length = c.gl from HC.out.2.1.1)
  have HN := hidden (show (val c).ns.length = c.nl from HC.out.2.2.1.1)
  have HD := hidden (show (val c).ds.length = c.dl from HC.out.2.2.2.1.1)
  have HBY := hidden (show (val c).bs.length = c.bl from HC.out.2.2.2.2.1.1)
  have m1 := HC.out.2.1.2.1
  have m2 := HC.out.2.2.1.2.1
  have m3 := HC.out.2.2.2.1.2.1
  have m4 := HC.out.2.2.2.2.1.2.2.1
  clear ht hx1 hx2 hHeld HBE HSM HH
  rcases t with _ | _
  · go_wp2
    go_ret
    exact fin_i (chk_63 (fun h => by simpa using HT.out.2 h)).symm (HB.out.trans (HX2.out.mono HB.out.size))
  have HO := hidden (HT.out.1 rfl)
  have k0 := H2.out.c0
  have k13 := H2.out.c13
  clear HT
  by_cases hk0 : c.kind = 0
  · by_cases hl0 : c.bl = 0
    · go_wp2
      go_ret
      exact fin_i (chk_62 HO.out ⟨hk0, nil_of_len (HBY.out.trans hl0)⟩).symm (HB.out.trans (HX2.out.mono HB.out.size))
    · have el : ((c.bl : Int) == 0) = false := by simp; omega
      have hb0 : beat 0 = false := rfl
      go_wp2_with fail
      refine Calls.mono (isBeat 0 _) ?_
      rintro e x3 ⟨rfl, rfl⟩
      have HP := hidden (show Past (val c) from ⟨HO.out, (fun h => hl0 (by rw [← HBY.out, h.2]; rfl)), (fun h => by have := h.1; rw [show (val c).kind = 0 from hk0] at this; cases this)⟩)
      have k10 := H2.out.c10
      have k11 := H2.out.c11
      have k12 := H2.out.c12
      have k14 := H2.out.c14
      obtain ⟨M, hM, hMi⟩ := max3 (c.gl : Int) c.nl c.dl
      by_cases hm : 4096 < M
      · have HMI := hidden hMi
        clear hMi
        go_wp2
        go_ret
        exact fin_i (chk_3 HP.out (by rw [HG.out, HN.out, HD.out]; have := HMI.out.1 hm; omega)).symm (HB.out.trans (HX2.out.mono HB.out.size))
      have HM := hidden (show ¬ (4096 < (val c).gs.length ∨ 4096 < (val c).ns.length ∨ 4096 < (val c).ds.length) by rw [HG.out, HN.out, HD.out]; intro h; exact hm (hMi.2 (by omega)))
      clear hMi
      have PR := hidden (paramsRefusal base x2 c.pa c.pl c.pc c.ps (HC.out.later HX2.out).2.2.2.2.2.2)
      go_wp2_with fail
      refine Calls.mono PR.out ?_
      rintro e x4 ⟨cd, rfl, hcd, b4⟩
      have HCD := hidden (code_val HC.out.2.2.2.2.2.2.2.2.1 hcd)
      have HX4 := hidden (HX2.out.trans (b4.mono HX2.out.size))
      have H4 := hidden (H2.out.later b4)
      clear hcd b4 PR k0 k13 k10 k11 k12 k14 hM hm
      by_cases hz : cd = 0
      · subst hz
        have l4 := H4.out.ld
        have VB := hidden (valueBytes base c x4 (HC.out.later HX4.out))
        go_wp2_with fail
        refine Calls.mono VB.out ?_
        rintro e x5 ⟨rfl, b5⟩
        have HX5 := hidden (HX4.out.trans (b5.mono HX4.out.size))
        clear b5 l4 VB
        by_cases hv : 65531 < vlen (val c)
        · have hv2 : (65531 : Int) < (vlen (val c) : Nat) := by omega
          go_wp2
          go_ret
          exact fin_i (chk_2 HP.out HM.out HCD.out.symm hv).symm (HB.out.trans (HX5.out.mono HB.out.size))
        · have hv2 : ¬ (65531 : Int) < (vlen (val c) : Nat) := by omega
          go_wp2
          go_ret
          exact fin_i (chk_0 HP.out HM.out HCD.out.symm hv).symm (HB.out.trans (HX5.out.mono HB.out.size))
      · have hz2 := bne_t hz
        go_wp2
        go_ret
        exact fin_i (HCD.out.trans (chk_p HP.out HM.out (fun e => hz (HCD.out.trans e))).symm) (HB.out.trans (HX4.out.mono HB.out.size))
  · have ek := beq_f hk0
    go_wp2_with fail
    refine Calls.mono (isBeat c.kind _) ?_
    rintro e x3 ⟨rfl, rfl⟩
    have HBT := hidden (show beat (val c).kind = beat c.kind from rfl)
    cases hbt : beat c.kind with
    | false =>
      have HP := hidden (show Past (val c) from ⟨HO.out, (fun h => hk0 h.1), (fun h => by have := h.1; rw [HBT.out, hbt] at this; cases this)⟩)
      have k10 := H2.out.c10
      have k11 := H2.out.c11
      have k12 := H2.out.c12
      have k14 := H2.out.c14
      obtain ⟨M, hM, hMi⟩ := max3 (c.gl : Int) c.nl c.dl
      by_cases hm : 4096 < M
      · have HMI := hidden hMi
        clear hMi
        go_wp2
        go_ret
        exact fin_i (chk_3 HP.out (by rw [HG.out, HN.out, HD.out]; have := HMI.out.1 hm; omega)).symm (HB.out.trans (HX2.out.mono HB.out.size))
      have HM := hidden (show ¬ (4096 < (val c).gs.length ∨ 4096 < (val c).ns.length ∨ 4096 < (val c).ds.length) by rw [HG.out, HN.out, HD.out]; intro h; exact hm (hMi.2 (by omega)))
      clear hMi
      have PR := hidden (paramsRefusal base x2 c.pa c.pl c.pc c.ps (HC.out.later HX2.out).2.2.2.2.2.2)
      go_wp2_with fail
      refine Calls.mono PR.out ?_
      rintro e x4 ⟨cd, rfl, hcd, b4⟩
      have HCD := hidden (code_val HC.out.2.2.2.2.2.2.2.2.1 hcd)
      have HX4 := hidden (HX2.out.trans (b4.mono HX2.out.size))
      have H4 := hidden (H2.out.later b4)
      clear hcd b4 PR k0 k13 k10 k11 k12 k14 hM hm
      by_cases hz : cd = 0
      · subst hz
        have l4 := H4.out.ld
        have VB := hidden (valueBytes base c x4 (HC.out.later HX4.out))
        go_wp2_with fail
        refine Calls.mono VB.out ?_
        rintro e x5 ⟨rfl, b5⟩
        have HX5 := hidden (HX4.out.trans (b5.mono HX4.out.size))
        clear b5 l4 VB
        by_cases hv : 65531 < vlen (val c)
        · have hv2 : (65531 : Int) < (vlen (val c) : Nat) := by omega
          go_wp2
          go_ret
          exact fin_i (chk_2 HP.out HM.out HCD.out.symm hv).symm (HB.out.trans (HX5.out.mono HB.out.size))
        · have hv2 : ¬ (65531 : Int) < (vlen (val c) : Nat) := by omega
          go_wp2
          go_ret
          exact fin_i (chk_0 HP.out HM.out HCD.out.symm hv).symm (HB.out.trans (HX5.out.mono HB.out.size))
      · have hz2 := bne_t hz
        go_wp2
        go_ret
        exact fin_i (HCD.out.trans (chk_p HP.out HM.out (fun e => hz (HCD.out.trans e))).symm) (HB.out.trans (HX4.out.mono HB.out.size))
    | true =>
      have k14 := H2.out.c14
      have OB := hidden (isOneBeat base x2 c.pa c.pl c.pc c.ps (HC.out.later HX2.out).2.2.2.2.2.2)
      go_wp2_with fail
      refine Calls.mono OB.out ?_
      rintro e x3 ⟨t, rfl, ht, rfl⟩
      have HT := hidden (show t = true ↔ OneBeat (val c).ps from ht)
      clear ht OB k14
      rcases t with _ | _
      · go_wp2
        go_ret
        exact fin_i (chk_61 HO.out (fun h => hk0 h.1) ⟨HBT.out.trans hbt, fun h => by simpa using HT.out.2 h⟩).symm (HB.out.trans (HX2.out.mono HB.out.size))
      have HP := hidden (show Past (val c) from ⟨HO.out, (fun h => hk0 h.1), (fun h => h.2 (HT.out.1 rfl))⟩)
      have k10 := H2.out.c10
      have k11 := H2.out.c11
      have k12 := H2.out.c12
      have k14 := H2.out.c14
      obtain ⟨M, hM, hMi⟩ := max3 (c.gl : Int) c.nl c.dl
      by_cases hm : 4096 < M
      · have HMI := hidden hMi
        clear hMi
        go_wp2
        go_ret
        exact fin_i (chk_3 HP.out (by rw [HG.out, HN.out, HD.out]; have := HMI.out.1 hm; omega)).symm (HB.out.trans (HX2.out.mono HB.out.size))
      have HM := hidden (show ¬ (4096 < (val c).gs.length ∨ 4096 < (val c).ns.length ∨ 4096 < (val c).ds.length) by rw [HG.out, HN.out, HD.out]; intro h; exact hm (hMi.2 (by omega)))
      clear hMi
      have PR := hidden (paramsRefusal base x2 c.pa c.pl c.pc c.ps (HC.out.later HX2.out).2.2.2.2.2.2)
      go_wp2_with fail
      refine Calls.mono PR.out ?_
      rintro e x4 ⟨cd, rfl, hcd, b4⟩
      have HCD := hidden (code_val HC.out.2.2.2.2.2.2.2.2.1 hcd)
      have HX4 := hidden (HX2.out.trans (b4.mono HX2.out.size))
      have H4 := hidden (H2.out.later b4)
      clear hcd b4 PR k0 k13 k10 k11 k12 k14 hM hm
      by_cases hz : cd = 0
      · subst hz
        have l4 := H4.out.ld
        have VB := hidden (valueBytes base c x4 (HC.out.later HX4.out))
        go_wp2_with fail
        refine Calls.mono VB.out ?_
        rintro e x5 ⟨rfl, b5⟩
        have HX5 := hidden (HX4.out.trans (b5.mono HX4.out.size))
        clear b5 l4 VB
        by_cases hv : 65531 < vlen (val c)
        · have hv2 : (65531 : Int) < (vlen (val c) : Nat) := by omega
          go_wp2
          go_ret
          exact fin_i (chk_2 HP.out HM.out HCD.out.symm hv).symm (HB.out.trans (HX5.out.mono HB.out.size))
        · have hv2 : ¬ (65531 : Int) < (vlen (val c) : Nat) := by omega
          go_wp2
          go_ret
          exact fin_i (chk_0 HP.out HM.out HCD.out.symm hv).symm (HB.out.trans (HX5.out.mono HB.out.size))
      · have hz2 := bne_t hz
        go_wp2
        go_ret
        exact fin_i (HCD.out.trans (chk_p HP.out HM.out (fun e => hz (HCD.out.trans e))).symm) (HB.out.trans (HX4.out.mono HB.out.size))
open Classical in
/-- what Size tells -/
noncomputable def csize (v : Ch) : Nat := if chk v = 0 then clen v else 0
theorem size_ (base : Nat) (c : Ck) (w : World) (hc : Chk base w c) : Calls Try.prog 14 #[cv c] w fun e w' => e = .returned (.int .i64 (csize (val c) : Nat)) ∧ Below w.heap.size w w' := by
  have hl := (Bx.new w c).ld
  have hb := below_box w c
  have CK := hidden (check base c _ (hc.later hb))
  have H1 := hidden (Bx.new w c)
  have HC := hidden (hc.later hb)
  have HB := hidden hb
  clear hb hc
  go_enter Try.func14, Try.ntmps14
  go_wp2_with fail
  refine Calls.mono CK.out ?_
  rintro e w1 ⟨rfl, b1⟩
  have HB1 := hidden (HB.out.trans (b1.mono HB.out.size))
  have l1 := (H1.out.later b1).ld
  have WB := hidden (wholeBytes base c w1 (HC.out.later b1))
  clear CK b1 hl
  by_cases hz : chk (val c) = 0
  · have HE := hidden (show csize (val c) = clen (val c) by unfold csize; rw [if_pos hz])
    go_wp2_with fail
    refine Calls.mono WB.out ?_
    rintro e w2 ⟨rfl, b2⟩
    go_wp2
    go_ret
    exact fin_i (congrArg _ HE.out.symm) (HB1.out.trans (b2.mono HB1.out.size))
  · have HE := hidden (show csize (val c) = 0 by unfold csize; rw [if_neg hz])
    have hz2 := bne_t hz
    go_wp2
    go_ret
    exact fin_i (congrArg _ HE.out.symm) HB1.out
end Go.Proofs.Ytifdkpifambhaaa.Chu
