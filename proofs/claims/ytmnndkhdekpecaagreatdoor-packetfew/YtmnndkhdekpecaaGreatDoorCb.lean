/-
  Which chunks may be, how many bytes a chunk has, as package chunk tells it. Chunks' bytes, as package chunk makes them. Chunks' bytes, as package chunk makes them: numbers, lists, whole chunks. Chunks' bytes, as package chunk makes them: lists, whole chunks, rows of chunks. Rows of chunks as bytes, as package chunk makes them. Encode of package chunk.
  Conditions: as at each lemma.
-/
import Derived.Test.YtmnndkhdekpecaaGreatDoorCa
import Derived.Test.YtmnndkhdekpecaaGreatDoorPb
import Derived.Deep.CutRange
import Derived.Deep.DeepCutAuto
namespace Go.Proofs.YtmnndkhdekpecaaGreatDoor.Chu
open Go.ChangeShapes Go.WideShapes Go.ChangeAt Go.RowKit
open Par (hidden Bytes Row Prm Prms cell_lt)
set_option linter.unusedVariables false
attribute [local go_sem ↓] execOp_ld execOp_bx execOp_st
attribute [local go_sem] run_box cc_0 cc_1 cc_2 cc_3 cc_4 cc_5 cc_6 cc_7 cc_8 cc_9 cc_10 cc_11 cc_12 cc_13 cc_14

/-- no flags but those that count -/
def FlagOk (k f : Int) : Prop := if k = 0 then f < 8 else if k = 6 ∨ k = 14 then f < 2 else if k = 1 ∨ k = 2 ∨ k = 3 ∨ k = 16 ∨ k = 4 ∨ k = 5 ∨ k = 9 ∨ k = 7 ∨ k = 8 ∨ k = 10 ∨ k = 11 then f = 0 else True
/-- no fields but those of its kind -/
def FieldOk (v : Ch) : Prop :=
  (v.tsn = 0 ∨ v.kind = 0 ∨ v.kind = 1 ∨ v.kind = 2 ∨ v.kind = 3 ∨ v.kind = 7 ∨ v.kind = 16) ∧ (v.stream = 0 ∨ v.kind = 0) ∧ (v.ssn = 0 ∨ v.kind = 0) ∧ (v.proto = 0 ∨ v.kind = 0) ∧
  (v.tag = 0 ∨ v.kind = 1 ∨ v.kind = 2) ∧ (v.win = 0 ∨ v.kind = 1 ∨ v.kind = 2 ∨ v.kind = 3 ∨ v.kind = 16) ∧ (v.out = 0 ∨ v.kind = 1 ∨ v.kind = 2) ∧ (v.inn = 0 ∨ v.kind = 1 ∨ v.kind = 2) ∧
  (v.gs = [] ∨ v.kind = 3 ∨ v.kind = 16) ∧ (v.ns = [] ∨ v.kind = 16) ∧ (v.ds = [] ∨ v.kind = 3 ∨ v.kind = 16) ∧
  (v.bs = [] ∨ ¬ (v.kind = 1 ∨ v.kind = 2 ∨ v.kind = 3 ∨ v.kind = 4 ∨ v.kind = 5 ∨ v.kind = 6 ∨ v.kind = 7 ∨ v.kind = 8 ∨ v.kind = 9 ∨ v.kind = 11 ∨ v.kind = 14 ∨ v.kind = 16)) ∧
  (v.ps = [] ∨ v.kind = 1 ∨ v.kind = 2 ∨ v.kind = 4 ∨ v.kind = 5 ∨ v.kind = 6 ∨ v.kind = 9)
def OwnF (v : Ch) : Prop := FlagOk v.kind v.flags ∧ FieldOk v
theorem off7 (f : Int) (h0 : 0 ≤ f) (h1 : f < 256) : bits .andNot .u8 f 7 = 0 ↔ f < 8 := by
  obtain ⟨n, rfl⟩ : ∃ n : Nat, f = n := ⟨f.toNat, by omega⟩
  have : ∀ n : Fin 256, bits .andNot .u8 (n.val : Int) 7 = 0 ↔ (n.val : Int) < 8 := by decide +kernel
  exact this ⟨n, by omega⟩
theorem off1 (f : Int) (h0 : 0 ≤ f) (h1 : f < 256) : bits .andNot .u8 f 1 = 0 ↔ f < 2 := by
  obtain ⟨n, rfl⟩ : ∃ n : Nat, f = n := ⟨f.toNat, by omega⟩
  have : ∀ n : Fin 256, bits .andNot .u8 (n.val : Int) 1 = 0 ↔ (n.val : Int) < 2 := by decide +kernel
  exact this ⟨n, by omega⟩
theorem off0 (f : Int) (h0 : 0 ≤ f) (h1 : f < 256) : bits .andNot .u8 f 0 = 0 ↔ f = 0 := by
  obtain ⟨n, rfl⟩ : ∃ n : Nat, f = n := ⟨f.toNat, by omega⟩
  have : ∀ n : Fin 256, bits .andNot .u8 (n.val : Int) 0 = 0 ↔ (n.val : Int) = 0 := by decide +kernel
  exact this ⟨n, by omega⟩
theorem off255 (f : Int) (h0 : 0 ≤ f) (h1 : f < 256) : bits .andNot .u8 f 255 = 0 := by
  obtain ⟨n, rfl⟩ : ∃ n : Nat, f = n := ⟨f.toNat, by omega⟩
  have : ∀ n : Fin 256, bits .andNot .u8 (n.val : Int) 255 = 0 := by decide +kernel
  exact this ⟨n, by omega⟩
theorem off_iff (k f : Int) (h0 : 0 ≤ f) (h1 : f < 256) : offF f k = 0 ↔ FlagOk k f := by
  unfold offF cnt FlagOk
  by_cases a : k = 0
  · simp only [if_pos a]; exact off7 f h0 h1
  · simp only [if_neg a]
    by_cases b : k = 6 ∨ k = 14
    · simp only [if_pos b]; exact off1 f h0 h1
    · simp only [if_neg b]
      by_cases c : k = 1 ∨ k = 2 ∨ k = 3 ∨ k = 16 ∨ k = 4 ∨ k = 5 ∨ k = 9 ∨ k = 7 ∨ k = 8 ∨ k = 10 ∨ k = 11
      · simp only [if_pos c]; exact off0 f h0 h1
      · simp only [if_neg c]; simp [off255 f h0 h1]
set_option maxHeartbeats 2000000 in
theorem bes_iff (c : Ck) (hn : Nums c) : val (bes c) = val (zck c.kind) ↔ OwnF (val c) := by
  have hf := off_iff c.kind c.flags hn.2.1.1 hn.2.1.2
  unfold OwnF
  rw [show (val c).kind = c.kind from rfl, show (val c).flags = c.flags from rfl, ← hf]
  rcases kind_cases c.kind with hk | hk | hk | hk | hk | hk | hk | hk | hk | hk | hk | hk | hk | hk | hk
  all_goals first | (simp [bes, val, zck, FieldOk, hk]; done) | (obtain ⟨h0, h1, h2, h3, h4, h5, h6, h7, h8, h9, h10, h11, h14, h16⟩ := hk; simp [bes, val, zck, FieldOk, *]; done) | trace_state
/-- why Params are refused -/
def pcode (l : List (Int × List Int)) : Int := if 256 < l.length then 3 else if l.any (fun x => decide (65531 < x.2.length)) = true then 2 else 0
theorem long_val {base : Nat} {w : World} {ps : List Prm} (h : ∀ p ∈ ps, Par.One base w p) : Par.Long ps ↔ (ps.map Par.val).any (fun x => decide (65531 < x.2.length)) = true := by
  unfold Par.Long
  simp only [List.any_eq_true, List.mem_map, decide_eq_true_eq]
  constructor
  · rintro ⟨p, hp, hl⟩
    exact ⟨_, ⟨p, hp, rfl⟩, by rw [show (Par.val p).2.length = p.2.2.1 from (h p hp).2.1.1]; exact hl⟩
  · rintro ⟨_, ⟨p, hp, rfl⟩, hl⟩
    exact ⟨p, hp, by rw [show (Par.val p).2.length = p.2.2.1 from (h p hp).2.1.1] at hl; exact hl⟩
theorem code_val {base : Nat} {w : World} {ps : List Prm} {c : Int} (h : ∀ p ∈ ps, Par.One base w p) (hc : Par.code ps c) : c = pcode (ps.map Par.val) := by
  unfold pcode
  rw [List.length_map]
  rcases hc with ⟨h1, h2⟩ | ⟨h1, h2, h3⟩ | ⟨h1, h2, h3⟩
  · rw [if_pos h1]; exact h2
  · rw [if_neg (by omega), if_pos ((long_val h).1 h2)]; exact h3
  · rw [if_neg (by omega), if_neg (fun e => h2 ((long_val h).2 e))]; exact h3
def psz (l : List (Int × List Int)) : Nat := if pcode l = 0 then (Par.enc l).length else 0
/-- how many bytes a value has -/
def vlen (v : Ch) : Nat := nb v.kind + 4 * (v.gs.length + v.ns.length + v.ds.length) + psz v.ps + v.bs.length
theorem pcode_le {l : List (Int × List Int)} (h : pcode l = 0) : l.length ≤ 256 ∧ ∀ x ∈ l, x.2.length ≤ 65531 := by
  unfold pcode at h
  split at h
  · omega
  · split at h
    · omega
    · rename_i h1 h2
      refine ⟨by omega, fun x hx => ?_⟩
      rcases Nat.lt_or_ge 65531 x.2.length with h3 | h3
      · exact absurd (List.any_eq_true.2 ⟨x, hx, decide_eq_true h3⟩) h2
      · exact h3
theorem psz_le (l : List (Int × List Int)) : psz l ≤ 16777728 := by
  unfold psz
  split
  · rename_i h
    obtain ⟨h1, h2⟩ := pcode_le h
    have := Par.enc_le l h2
    calc _ ≤ l.length * 65538 := this
      _ ≤ 256 * 65538 := Nat.mul_le_mul_right _ h1
      _ ≤ _ := by decide
  · omega
theorem wrapS (z : Int) (h1 : -9223372036854775808 ≤ z) (h2 : z ≤ 9223372036854775807) : IntKind.i64.wrap z = z := by rw [IntKind.wrap_i64]; omega
theorem valueBytes (base : Nat) (c : Ck) (w : World) (hc : Chk base w c) : Calls Tryz.prog 73 #[cv c] w fun e w' => e = .returned (.int .i64 (vlen (val c) : Nat)) ∧ Below w.heap.size w w' := by
  obtain ⟨hnum, hg, hn, hd, hb, hbn, hp⟩ := hc
  have l1 := hg.1
  have l2 := hn.1
  have l3 := hd.1
  have l4 := hb.1
  have m1 := hg.2.1
  have m2 := hn.2.1
  have m3 := hd.2.1
  have m4 := hb.2.2.1
  have b1 := Bx.new w c
  have hbel := below_box w c
  have k0 := b1.c0
  have k10 := b1.c10
  have k11 := b1.c11
  have k12 := b1.c12
  have k13 := b1.c13
  have k14 := b1.c14
  have HP := hidden (hp.later hbel)
  have HON := hidden hp.2.2.1
  have hz := psz_le (c.ps.map Par.val)
  have HV := hidden (show vlen (val c) = nb c.kind + 4 * (c.gl + c.nl + c.dl) + psz (c.ps.map Par.val) + c.bl by unfold vlen; rw [← l1, ← l2, ← l3, ← l4]; rfl)
  have hnb : nb c.kind ≤ 16 := by unfold nb; split <;> (try split) <;> (try split) <;> omega
  clear hg hn hd hb hbn hp l1 l2 l3 l4
  go_enter Tryz.func73, Tryz.ntmps73
  go_wp2_with fail
  generalize w.alloc (.cells (cc c) 59) = W at *
  have HNB := hidden (numberBytes c.kind)
  have HSZ := hidden (show ∀ x : World, Below W.heap.size W x → Calls Tryz.prog 95 #[.slice c.pa c.pl c.pc] x fun e x' => e = .returned (.int .i64 (psz (c.ps.map Par.val) : Nat)) ∧ Below x.heap.size x x' ∧ Below W.heap.size W x' from
    fun x hx => (Par.size_ base x c.pa c.pl c.pc c.ps (HP.out.later hx)).mono (by
      rintro e x' ⟨cd, s, h1, h2, h3, rfl, b⟩
      refine ⟨?_, b, hx.trans (b.mono hx.size)⟩
      have e1 := code_val HON.out h1
      unfold psz
      rw [← e1]
      by_cases h0 : cd = 0
      · rw [if_pos h0, h3 h0]
      · rw [if_neg h0, h2 h0]; rfl))
  generalize nb c.kind = N at *
  generalize psz (c.ps.map Par.val) = Z at *
  have K0 := hidden k0
  have K13 := hidden k13
  have K14 := hidden k14
  have HH := hidden (show ∀ x : World, Below W.heap.size W x → x.cell? ⟨w.heap.size, 0, none⟩ = some (.int .u8 c.kind) ∧ x.cell? ⟨w.heap.size, 13, none⟩ = some (.slice c.ba c.bl c.bc) ∧ x.cell? ⟨w.heap.size, 14, none⟩ = some (.slice c.pa c.pl c.pc) ∧ Below W.heap.size W x from
    fun x hx => ⟨Par.keep_cell hx K0.out, Par.keep_cell hx K13.out, Par.keep_cell hx K14.out, hx⟩)
  obtain ⟨I, hI⟩ : ∃ I : Nat, (c.gl : Int) + c.nl + c.dl = (I : Int) := ⟨c.gl + c.nl + c.dl, by omega⟩
  have HI := hidden (show c.gl + c.nl + c.dl = I by omega)
  have hIl : I ≤ 422212465065984 := by omega
  simp only [hI]
  generalize c.bl = L at *
  clear k0 k10 k11 k12 k13 k14 m1 m2 m3 hI
  have HBL := hidden hbel
  clear hbel
  go_region_held3 (fun x => x.cell? ⟨w.heap.size, 0, none⟩ = some (.int .u8 c.kind) ∧ x.cell? ⟨w.heap.size, 13, none⟩ = some (.slice c.ba L c.bc) ∧ x.cell? ⟨w.heap.size, 14, none⟩ = some (.slice c.pa c.pl c.pc) ∧ Below W.heap.size W x)
    (first | (exact HH.out _ (Par.below_drew0 _)) | (exact HH.out _ (by assumption)) | (trace_state; fail))
    (first
      | (go_at_call 97; refine Calls.mono (HNB.out _) ?_; rintro e x ⟨rfl, rfl⟩)
      | (go_at_call 95; refine Calls.mono (HSZ.out _ ?_) ?_; (first | assumption | exact Par.below_drew0 _); rintro e x ⟨rfl, bx, hx⟩))
  go_wp2
  go_ret
  exact ⟨congrArg (fun z => Ending.returned (.int .i64 z)) (show IntKind.i64.wrap (IntKind.i64.wrap (IntKind.i64.wrap ((N : Int) + IntKind.i64.wrap (4 * (I : Int))) + (Z : Int)) + (L : Int)) = ((vlen (val c) : Nat) : Int) by
    rw [HV.out, wrapS (4 * (I : Int)) (by omega) (by omega), wrapS ((N : Int) + 4 * (I : Int)) (by omega) (by omega), wrapS ((N : Int) + 4 * (I : Int) + (Z : Int)) (by omega) (by omega), wrapS _ (by omega) (by omega)]
    have := HI.out
    omega), HBL.out.trans (hx.mono HBL.out.size)⟩
theorem vlen_le (base : Nat) (c : Ck) (w : World) (hc : Chk base w c) : vlen (val c) ≤ 2000000000000000 := by
  obtain ⟨hnum, hg, hn, hd, hb, hbn, hp⟩ := hc
  have l1 := hg.1
  have l2 := hn.1
  have l3 := hd.1
  have l4 := hb.1
  have m1 := hg.2.1
  have m2 := hn.2.1
  have m3 := hd.2.1
  have m4 := hb.2.2.1
  have hz := psz_le (c.ps.map Par.val)
  have hnb : nb c.kind ≤ 16 := by unfold nb; split <;> (try split) <;> (try split) <;> omega
  show nb c.kind + 4 * (c.gs.length + c.ns.length + c.ds.length) + psz (c.ps.map Par.val) + c.bs.length ≤ _
  omega
/-- how many bytes a chunk has -/
def clen (v : Ch) : Nat := Par.fill4 (4 + vlen v)
theorem wholeBytes (base : Nat) (c : Ck) (w : World) (hc : Chk base w c) : Calls Tryz.prog 49 #[cv c] w fun e w' => e = .returned (.int .i64 (clen (val c) : Nat)) ∧ Below w.heap.size w w' := by
  have hl := (Bx.new w c).ld
  have hb := below_box w c
  have hv := vlen_le base c w hc
  have V := hidden (valueBytes base c _ (hc.later hb))
  have HB := hidden hb
  clear hb hc
  go_enter Tryz.func49, Tryz.ntmps49
  go_wp2_with fail
  refine Calls.mono V.out ?_
  rintro e w1 ⟨rfl, b1⟩
  have F := hidden (filled (4 + vlen (val c)) (by omega) w1)
  have HB1 := hidden (HB.out.trans (b1.mono HB.out.size))
  clear V b1 hl
  rw [show ((4 + vlen (val c) : Nat) : Int) = 4 + (vlen (val c) : Int) by omega] at F
  go_wp2_with fail
  refine Calls.mono F.out ?_
  rintro e w2 ⟨rfl, rfl⟩
  go_wp2
  go_ret
  exact ⟨rfl, HB1.out⟩
open Classical in
/-- why a chunk may not be -/
noncomputable def chk (v : Ch) : Int :=
  if ¬ OwnF v then 63 else if v.kind = 0 ∧ v.bs = [] then 62 else if beat v.kind = true ∧ ¬ OneBeat v.ps then 61
  else if 4096 < v.gs.length ∨ 4096 < v.ns.length ∨ 4096 < v.ds.length then 3 else if pcode v.ps ≠ 0 then pcode v.ps else if 65531 < vlen v then 2 else 0
theorem nil_of_len {α : Type} {l : List α} (h : l.length = 0) : l = [] := List.eq_nil_of_length_eq_zero h
theorem zck_lsts (base : Nat) (k : Int) (w : World) : Lsts base w (zck k) := by
  exact ⟨Gaps.nil _ _ _, Gaps.nil _ _ _, Fours.nil _ _ _, ⟨rfl, (fun n hn => by cases hn), Nat.zero_le _, .inl rfl⟩, (fun _ => ⟨rfl, rfl⟩), Prms.nil _ _ _⟩
theorem bes_lsts {base : Nat} {w : World} {c : Ck} (h : Lsts base w c) : Lsts base w (bes c) := by
  obtain ⟨hg, hn, hd, hb, hbn, hp⟩ := h
  have g0 := Gaps.nil base w none
  have d0 := Fours.nil base w none
  have p0 := Prms.nil base w none
  have r0 : Row base w none 0 [] := ⟨rfl, (fun n hn => by cases hn), by decide, .inl rfl⟩
  have n0 : (none : Option Addr) = none → 0 = 0 ∧ 0 = 0 := fun _ => ⟨rfl, rfl⟩
  dsimp only [bes]
  split
  · exact ⟨g0, g0, d0, hb, hbn, hp⟩
  · split
    · exact ⟨g0, hn, d0, hb, hbn, hp⟩
    · split
      · exact ⟨hg, hn, hd, hb, hbn, hp⟩
      · split
        · exact ⟨hg, hn, hd, hb, hbn, hp⟩
        · split
          · exact ⟨hg, hn, hd, hb, hbn, p0⟩
          · split
            · exact ⟨hg, hn, hd, hb, hbn, p0⟩
            · split
              · exact ⟨hg, hn, hd, r0, n0, hp⟩
              · exact ⟨hg, hn, hd, r0, n0, hp⟩
theorem chk_63 {v : Ch} (h : ¬ OwnF v) : chk v = 63 := by unfold chk; rw [if_pos h]
theorem chk_62 {v : Ch} (h : OwnF v) (h1 : v.kind = 0 ∧ v.bs = []) : chk v = 62 := by unfold chk; rw [if_neg (fun g => g h), if_pos h1]
theorem chk_61 {v : Ch} (h : OwnF v) (h1 : ¬ (v.kind = 0 ∧ v.bs = [])) (h2 : beat v.kind = true ∧ ¬ OneBeat v.ps) : chk v = 61 := by unfold chk; rw [if_neg (fun g => g h), if_neg h1, if_pos h2]
/-- nothing against it up to its lists -/
def Past (v : Ch) : Prop := OwnF v ∧ ¬ (v.kind = 0 ∧ v.bs = []) ∧ ¬ (beat v.kind = true ∧ ¬ OneBeat v.ps)
theorem chk_3 {v : Ch} (h : Past v) (h1 : 4096 < v.gs.length ∨ 4096 < v.ns.length ∨ 4096 < v.ds.length) : chk v = 3 := by unfold chk; rw [if_neg (fun g => g h.1), if_neg h.2.1, if_neg h.2.2, if_pos h1]
theorem chk_p {v : Ch} (h : Past v) (h1 : ¬ (4096 < v.gs.length ∨ 4096 < v.ns.length ∨ 4096 < v.ds.length)) (h2 : pcode v.ps ≠ 0) : chk v = pcode v.ps := by unfold chk; rw [if_neg (fun g => g h.1), if_neg h.2.1, if_neg h.2.2, if_neg h1, if_pos h2]
theorem chk_2 {v : Ch} (h : Past v) (h1 : ¬ (4096 < v.gs.length ∨ 4096 < v.ns.length ∨ 4096 < v.ds.length)) (h2 : pcode v.ps = 0) (h3 : 65531 < vlen v) : chk v = 2 := by unfold chk; rw [if_neg (fun g => g h.1), if_neg h.2.1, if_neg h.2.2, if_neg h1, if_neg (fun g => g h2), if_pos h3]
theorem chk_0 {v : Ch} (h : Past v) (h1 : ¬ (4096 < v.gs.length ∨ 4096 < v.ns.length ∨ 4096 < v.ds.length)) (h2 : pcode v.ps = 0) (h3 : ¬ 65531 < vlen v) : chk v = 0 := by unfold chk; rw [if_neg (fun g => g h.1), if_neg h.2.1, if_neg h.2.2, if_neg h1, if_neg (fun g => g h2), if_neg h3]
theorem chk_ok {v : Ch} (h : chk v = 0) : Past v ∧ ¬ (4096 < v.gs.length ∨ 4096 < v.ns.length ∨ 4096 < v.ds.length) ∧ pcode v.ps = 0 ∧ ¬ 65531 < vlen v := by
  unfold chk at h
  split at h
  · omega
  · rename_i a0
    split at h
    · omega
    · rename_i a1
      split at h
      · omega
      · rename_i a2
        split at h
        · omega
        · rename_i a3
          split at h
          · rename_i a4; exact absurd h a4
          · rename_i a4
            split at h
            · omega
            · rename_i a5
              exact ⟨⟨Classical.not_not.1 a0, a1, a2⟩, a3, Classical.not_not.1 a4, a5⟩
theorem max3 (a b d : Int) : ∃ M : Int, (∀ (ts : Array TypeId) (t : TypeId) (w : World), (Builtin.max_ ts t #[.int .i64 a, .int .i64 b, .int .i64 d]).run Tryz.prog w = .ok (.int .i64 M) w) ∧ (4096 < M ↔ 4096 < a ∨ 4096 < b ∨ 4096 < d) := by
  refine ⟨if d > (if b > a then b else a) then d else (if b > a then b else a), fun ts t w => by simp [Builtin.max_, Builtin.max2], ?_⟩
  split <;> split <;> omega
theorem fin_i {k : IntKind} {x y : Int} {p : Prop} (h : x = y) (hp : p) : Ending.returned (.int k x) = Ending.returned (.int k y) ∧ p := ⟨by rw [h], hp⟩
set_option maxHeartbeats 4000000 in
theorem check (base : Nat) (c : Ck) (w : World) (hc : Chk base w c) : Calls Tryz.prog 41 #[cv c] w fun e w' => e = .returned (.int .i64 (chk (val c))) ∧ Below w.heap.size w w' := by
  have b1 := Bx.new w c
  have hb := below_box w c
  have HI := hidden (bes_iff c hc.1)
  have HC := hidden (hc.later hb)
  clear hc
  go_enter Tryz.func41, Tryz.ntmps41
  go_wp2_with fail
  generalize w.alloc (.cells (cc c) 59) = W at *
  have HB := hidden hb
  have H1 := hidden b1
  clear hb b1
  have HBE := hidden (show ∀ x : World, Below W.heap.size W x → Calls Tryz.prog 69 #[cv c] x fun e x' => e = .returned (cv (bes c)) ∧ Below W.heap.size W x' from
    fun x hx => (beside c x).mono (by rintro e x' ⟨rfl, b⟩; exact ⟨rfl, hx.trans (b.mono hx.size)⟩))
  have HSM := hidden (show ∀ x : World, Below W.heap.size W x → Calls Tryz.prog 40 #[cv (bes c), .agg #[.int .u8 c.kind, .int .u8 0, .int .u32 0, .int .u16 0, .int .u16 0, .int .u32 0, .int .u32 0, .int .u32 0, .int .u16 0, .int .u16 0, .slice none 0 0, .slice none 0 0, .slice none 0 0, .slice none 0 0, .slice none 0 0]] x fun e x' => ∃ t : Bool, e = .returned (.bool t) ∧ (t = true ↔ OwnF (val c)) ∧ Below W.heap.size W x' from
    fun x hx => (same base 0 x (bes c) (zck c.kind) (bes_lsts (HC.out.later hx).2) (zck_lsts 0 c.kind x)).mono (by
      rintro e x' ⟨t, rfl, ht, b⟩; exact ⟨t, rfl, ht.trans HI.out, hx.trans (b.mono hx.size)⟩))
  have HH := hidden (show ∀ x : World, Below W.heap.size W x → (ld (.pointer (some ⟨w.heap.size, 0, none⟩))).run Tryz.prog x = .ok (cv c) x ∧ x.cell? ⟨w.heap.size, 0, none⟩ = some (.int .u8 c.kind) ∧ Below W.heap.size W x from
    fun x hx => ⟨(H1.out.later hx).ld, (H1.out.later hx).c0, hx⟩)
  go_region_held3 (fun x => (ld (.pointer (some ⟨w.heap.size, 0, none⟩))).run Tryz.prog x = .ok (cv c) x ∧ x.cell? ⟨w.heap.size, 0, none⟩ = some (.int .u8 c.kind) ∧ Below W.heap.size W x)
    (first | (exact HH.out _ (Par.below_drew0 _)) | (exact HH.out _ (by assumption)) | (trace_state; fail))
    (first
      | (go_at_call 69; refine Calls.mono (HBE.out _ ?_) ?_; (first | assumption | exact Par.below_drew0 _); rintro e x1 ⟨rfl, hx1⟩)
      | (go_at_call 40; refine Calls.mono (HSM.out _ ?_) ?_; (first | assumption | exact Par.below_drew0 _); rintro e x2 ⟨t, rfl, ht, hx2⟩))
  rename_i hHeld
  have HT := hidden ht
  have HX2 := hidden hx2
  have H2 := hidden (H1.out.later hx2)
  have HG := hidden (show (val c).gs.length = c.gl from HC.out.2.1.1)
  have HN := hidden (show (val c).ns.length = c.nl from HC.out.2.2.1.1)
  have HD := hidden (show (val c).ds.length = c.dl from HC.out.2.2.2.1.1)
  have HBY := hidden (show (val c).bs.length = c.bl from HC.out.2.2.2.2.1.1)
  have m1 := HC.out.2.1.2.1
  have m2 := HC.out.2.2.1.2.1
  have m3 := HC.out.2.2.2.1.2.1
  have m4 := HC.out.2.2.2.2.1.2.2.1
  clear ht hx1 hx2 hHeld HBE HSM HH
  rcases t with _ | _
  · go_wp2
    go_ret
    exact fin_i (chk_63 (fun h => by simpa using HT.out.2 h)).symm (HB.out.trans (HX2.out.mono HB.out.size))
  have HO := hidden (HT.out.1 rfl)
  have k0 := H2.out.c0
  have k13 := H2.out.c13
  clear HT
  by_cases hk0 : c.kind = 0
  · by_cases hl0 : c.bl = 0
    · go_wp2
      go_ret
      exact fin_i (chk_62 HO.out ⟨hk0, nil_of_len (HBY.out.trans hl0)⟩).symm (HB.out.trans (HX2.out.mono HB.out.size))
    · have el : ((c.bl : Int) == 0) = false := by simp; omega
      have hb0 : beat 0 = false := rfl
      go_wp2_with fail
      refine Calls.mono (isBeat 0 _) ?_
      rintro e x3 ⟨rfl, rfl⟩
      have HP := hidden (show Past (val c) from ⟨HO.out, (fun h => hl0 (by rw [← HBY.out, h.2]; rfl)), (fun h => by have := h.1; rw [show (val c).kind = 0 from hk0] at this; cases this)⟩)
      have k10 := H2.out.c10
      have k11 := H2.out.c11
      have k12 := H2.out.c12
      have k14 := H2.out.c14
      obtain ⟨M, hM, hMi⟩ := max3 (c.gl : Int) c.nl c.dl
      by_cases hm : 4096 < M
      · have HMI := hidden hMi
        clear hMi
        go_wp2
        go_ret
        exact fin_i (chk_3 HP.out (by rw [HG.out, HN.out, HD.out]; have := HMI.out.1 hm; omega)).symm (HB.out.trans (HX2.out.mono HB.out.size))
      have HM := hidden (show ¬ (4096 < (val c).gs.length ∨ 4096 < (val c).ns.length ∨ 4096 < (val c).ds.length) by rw [HG.out, HN.out, HD.out]; intro h; exact hm (hMi.2 (by omega)))
      clear hMi
      have PR := hidden (paramsRefusal base x2 c.pa c.pl c.pc c.ps (HC.out.later HX2.out).2.2.2.2.2.2)
      go_wp2_with fail
      refine Calls.mono PR.out ?_
      rintro e x4 ⟨cd, rfl, hcd, b4⟩
      have HCD := hidden (code_val HC.out.2.2.2.2.2.2.2.2.1 hcd)
      have HX4 := hidden (HX2.out.trans (b4.mono HX2.out.size))
      have H4 := hidden (H2.out.later b4)
      clear hcd b4 PR k0 k13 k10 k11 k12 k14 hM hm
      by_cases hz : cd = 0
      · subst hz
        have l4 := H4.out.ld
        have VB := hidden (valueBytes base c x4 (HC.out.later HX4.out))
        go_wp2_with fail
        refine Calls.mono VB.out ?_
        rintro e x5 ⟨rfl, b5⟩
        have HX5 := hidden (HX4.out.trans (b5.mono HX4.out.size))
        clear b5 l4 VB
        by_cases hv : 65531 < vlen (val c)
        · have hv2 : (65531 : Int) < (vlen (val c) : Nat) := by omega
          go_wp2
          go_ret
          exact fin_i (chk_2 HP.out HM.out HCD.out.symm hv).symm (HB.out.trans (HX5.out.mono HB.out.size))
        · have hv2 : ¬ (65531 : Int) < (vlen (val c) : Nat) := by omega
          go_wp2
          go_ret
          exact fin_i (chk_0 HP.out HM.out HCD.out.symm hv).symm (HB.out.trans (HX5.out.mono HB.out.size))
      · have hz2 := bne_t hz
        go_wp2
        go_ret
        exact fin_i (HCD.out.trans (chk_p HP.out HM.out (fun e => hz (HCD.out.trans e))).symm) (HB.out.trans (HX4.out.mono HB.out.size))
  · have ek := beq_f hk0
    go_wp2_with fail
    refine Calls.mono (isBeat c.kind _) ?_
    rintro e x3 ⟨rfl, rfl⟩
    have HBT := hidden (show beat (val c).kind = beat c.kind from rfl)
    cases hbt : beat c.kind with
    | false =>
      have HP := hidden (show Past (val c) from ⟨HO.out, (fun h => hk0 h.1), (fun h => by have := h.1; rw [HBT.out, hbt] at this; cases this)⟩)
      have k10 := H2.out.c10
      have k11 := H2.out.c11
      have k12 := H2.out.c12
      have k14 := H2.out.c14
      obtain ⟨M, hM, hMi⟩ := max3 (c.gl : Int) c.nl c.dl
      by_cases hm : 4096 < M
      · have HMI := hidden hMi
        clear hMi
        go_wp2
        go_ret
        exact fin_i (chk_3 HP.out (by rw [HG.out, HN.out, HD.out]; have := HMI.out.1 hm; omega)).symm (HB.out.trans (HX2.out.mono HB.out.size))
      have HM := hidden (show ¬ (4096 < (val c).gs.length ∨ 4096 < (val c).ns.length ∨ 4096 < (val c).ds.length) by rw [HG.out, HN.out, HD.out]; intro h; exact hm (hMi.2 (by omega)))
      clear hMi
      have PR := hidden (paramsRefusal base x2 c.pa c.pl c.pc c.ps (HC.out.later HX2.out).2.2.2.2.2.2)
      go_wp2_with fail
      refine Calls.mono PR.out ?_
      rintro e x4 ⟨cd, rfl, hcd, b4⟩
      have HCD := hidden (code_val HC.out.2.2.2.2.2.2.2.2.1 hcd)
      have HX4 := hidden (HX2.out.trans (b4.mono HX2.out.size))
      have H4 := hidden (H2.out.later b4)
      clear hcd b4 PR k0 k13 k10 k11 k12 k14 hM hm
      by_cases hz : cd = 0
      · subst hz
        have l4 := H4.out.ld
        have VB := hidden (valueBytes base c x4 (HC.out.later HX4.out))
        go_wp2_with fail
        refine Calls.mono VB.out ?_
        rintro e x5 ⟨rfl, b5⟩
        have HX5 := hidden (HX4.out.trans (b5.mono HX4.out.size))
        clear b5 l4 VB
        by_cases hv : 65531 < vlen (val c)
        · have hv2 : (65531 : Int) < (vlen (val c) : Nat) := by omega
          go_wp2
          go_ret
          exact fin_i (chk_2 HP.out HM.out HCD.out.symm hv).symm (HB.out.trans (HX5.out.mono HB.out.size))
        · have hv2 : ¬ (65531 : Int) < (vlen (val c) : Nat) := by omega
          go_wp2
          go_ret
          exact fin_i (chk_0 HP.out HM.out HCD.out.symm hv).symm (HB.out.trans (HX5.out.mono HB.out.size))
      · have hz2 := bne_t hz
        go_wp2
        go_ret
        exact fin_i (HCD.out.trans (chk_p HP.out HM.out (fun e => hz (HCD.out.trans e))).symm) (HB.out.trans (HX4.out.mono HB.out.size))
    | true =>
      have k14 := H2.out.c14
      have OB := hidden (isOneBeat base x2 c.pa c.pl c.pc c.ps (HC.out.later HX2.out).2.2.2.2.2.2)
      go_wp2_with fail
      refine Calls.mono OB.out ?_
      rintro e x3 ⟨t, rfl, ht, rfl⟩
      have HT := hidden (show t = true ↔ OneBeat (val c).ps from ht)
      clear ht OB k14
      rcases t with _ | _
      · go_wp2
        go_ret
        exact fin_i (chk_61 HO.out (fun h => hk0 h.1) ⟨HBT.out.trans hbt, fun h => by simpa using HT.out.2 h⟩).symm (HB.out.trans (HX2.out.mono HB.out.size))
      have HP := hidden (show Past (val c) from ⟨HO.out, (fun h => hk0 h.1), (fun h => h.2 (HT.out.1 rfl))⟩)
      have k10 := H2.out.c10
      have k11 := H2.out.c11
      have k12 := H2.out.c12
      have k14 := H2.out.c14
      obtain ⟨M, hM, hMi⟩ := max3 (c.gl : Int) c.nl c.dl
      by_cases hm : 4096 < M
      · have HMI := hidden hMi
        clear hMi
        go_wp2
        go_ret
        exact fin_i (chk_3 HP.out (by rw [HG.out, HN.out, HD.out]; have := HMI.out.1 hm; omega)).symm (HB.out.trans (HX2.out.mono HB.out.size))
      have HM := hidden (show ¬ (4096 < (val c).gs.length ∨ 4096 < (val c).ns.length ∨ 4096 < (val c).ds.length) by rw [HG.out, HN.out, HD.out]; intro h; exact hm (hMi.2 (by omega)))
      clear hMi
      have PR := hidden (paramsRefusal base x2 c.pa c.pl c.pc c.ps (HC.out.later HX2.out).2.2.2.2.2.2)
      go_wp2_with fail
      refine Calls.mono PR.out ?_
      rintro e x4 ⟨cd, rfl, hcd, b4⟩
      have HCD := hidden (code_val HC.out.2.2.2.2.2.2.2.2.1 hcd)
      have HX4 := hidden (HX2.out.trans (b4.mono HX2.out.size))
      have H4 := hidden (H2.out.later b4)
      clear hcd b4 PR k0 k13 k10 k11 k12 k14 hM hm
      by_cases hz : cd = 0
      · subst hz
        have l4 := H4.out.ld
        have VB := hidden (valueBytes base c x4 (HC.out.later HX4.out))
        go_wp2_with fail
        refine Calls.mono VB.out ?_
        rintro e x5 ⟨rfl, b5⟩
        have HX5 := hidden (HX4.out.trans (b5.mono HX4.out.size))
        clear b5 l4 VB
        by_cases hv : 65531 < vlen (val c)
        · have hv2 : (65531 : Int) < (vlen (val c) : Nat) := by omega
          go_wp2
          go_ret
          exact fin_i (chk_2 HP.out HM.out HCD.out.symm hv).symm (HB.out.trans (HX5.out.mono HB.out.size))
        · have hv2 : ¬ (65531 : Int) < (vlen (val c) : Nat) := by omega
          go_wp2
          go_ret
          exact fin_i (chk_0 HP.out HM.out HCD.out.symm hv).symm (HB.out.trans (HX5.out.mono HB.out.size))
      · have hz2 := bne_t hz
        go_wp2
        go_ret
        exact fin_i (HCD.out.trans (chk_p HP.out HM.out (fun e => hz (HCD.out.trans e))).symm) (HB.out.trans (HX4.out.mono HB.out.size))
open Classical in
/-- what Size tells -/
noncomputable def csize (v : Ch) : Nat := if chk v = 0 then clen v else 0
theorem size_ (base : Nat) (c : Ck) (w : World) (hc : Chk base w c) : Calls Tryz.prog 42 #[cv c] w fun e w' => e = .returned (.int .i64 (csize (val c) : Nat)) ∧ Below w.heap.size w w' := by
  have hl := (Bx.new w c).ld
  have hb := below_box w c
  have CK := hidden (check base c _ (hc.later hb))
  have H1 := hidden (Bx.new w c)
  have HC := hidden (hc.later hb)
  have HB := hidden hb
  clear hb hc
  go_enter Tryz.func42, Tryz.ntmps42
  go_wp2_with fail
  refine Calls.mono CK.out ?_
  rintro e w1 ⟨rfl, b1⟩
  have HB1 := hidden (HB.out.trans (b1.mono HB.out.size))
  have l1 := (H1.out.later b1).ld
  have WB := hidden (wholeBytes base c w1 (HC.out.later b1))
  clear CK b1 hl
  by_cases hz : chk (val c) = 0
  · have HE := hidden (show csize (val c) = clen (val c) by unfold csize; rw [if_pos hz])
    go_wp2_with fail
    refine Calls.mono WB.out ?_
    rintro e w2 ⟨rfl, b2⟩
    go_wp2
    go_ret
    exact fin_i (congrArg _ HE.out.symm) (HB1.out.trans (b2.mono HB1.out.size))
  · have HE := hidden (show csize (val c) = 0 by unfold csize; rw [if_neg hz])
    have hz2 := bne_t hz
    go_wp2
    go_ret
    exact fin_i (congrArg _ HE.out.symm) HB1.out
end Go.Proofs.YtmnndkhdekpecaaGreatDoor.Chu
namespace Go.Proofs.YtmnndkhdekpecaaGreatDoor.Chu
open Go.ChangeShapes Go.WideShapes Go.ChangeAt Go.RowKit
open Par (hidden Bytes Row Prm Prms cell_lt Cap cells_new)
set_option linter.unusedVariables false
attribute [local go_sem ↓] execOp_ld execOp_bx execOp_st
attribute [local go_sem] run_box cc_0 cc_1 cc_2 cc_3 cc_4 cc_5 cc_6 cc_7 cc_8 cc_9 cc_10 cc_11 cc_12 cc_13 cc_14

theorem gr_trans {w w1 w2 : World} {g : Nat} (h : w.grownBy w1 (some g)) (h2 : w1.grownBy w2 (some g)) : w.grownBy w2 (some g) := by
  obtain ⟨a1, a2, a3, a4, a5⟩ := h
  obtain ⟨b1, b2, b3, b4, b5⟩ := h2
  exact ⟨b1.trans a1, b2.trans a2, b3.trans a3, Nat.le_trans a4 b4, fun k hk hne => (b5 k (Nat.lt_of_lt_of_le hk a4) hne).trans (a5 k hk hne)⟩
/-- cells one behind the other, in another block than g -/
def Ln (g : Nat) (w : World) (a : Option Addr) (xs : List Value) : Prop := xs = [] ∨ ∃ b off, a = some ⟨b, off, none⟩ ∧ b ≠ g ∧ ∀ j u, xs[j]? = some u → w.cell? ⟨b, off + j, none⟩ = some u
theorem Ln.grown {g : Nat} {w w' : World} {a : Option Addr} {xs : List Value} (h : Ln g w a xs) (hg : w.grownBy w' (some g)) : Ln g w' a xs := by
  refine h.imp id ?_
  rintro ⟨b, off, rfl, hb, hc⟩
  exact ⟨b, off, rfl, hb, fun j u hj => hg.cell (hc j u hj) (by simpa using hb)⟩
/-- numbers as bytes -/
def twos (xs : List Int) : List Int := xs.flatMap fun x => [x / 256, x % 256]
def fours (xs : List Int) : List Int := xs.flatMap fun x => [x / 16777216, x / 65536 % 256, x / 256 % 256, x % 256]
theorem twos_len (xs : List Int) : (twos xs).length = 2 * xs.length := by
  induction xs with
  | nil => rfl
  | cons x xs ih => rw [show twos (x :: xs) = [x / 256, x % 256] ++ twos xs from rfl, List.length_append, ih]; simp; omega
theorem fours_len (xs : List Int) : (fours xs).length = 4 * xs.length := by
  induction xs with
  | nil => rfl
  | cons x xs ih => rw [show fours (x :: xs) = [x / 16777216, x / 65536 % 256, x / 256 % 256, x % 256] ++ fours xs from rfl, List.length_append, ih]; simp; omega
theorem twos_snoc {xs : List Int} {k : Nat} {x : Int} (h : xs[k]? = some x) : twos (xs.take (k + 1)) = twos (xs.take k) ++ [x / 256, x % 256] := by
  rw [List.take_add_one, h]; unfold twos; rw [List.flatMap_append]; rfl
theorem fours_snoc {xs : List Int} {k : Nat} {x : Int} (h : xs[k]? = some x) : fours (xs.take (k + 1)) = fours (xs.take k) ++ [x / 16777216, x / 65536 % 256, x / 256 % 256, x % 256] := by
  rw [List.take_add_one, h]; unfold fours; rw [List.flatMap_append]; rfl
theorem ln_get {g : Nat} {w : World} {a : Option Addr} {xs : List Int} {k : IntKind} (h : Ln g w a (xs.map (.int k))) {j : Nat} {x : Int} (hj : xs[j]? = some x) : ∃ b off, a = some ⟨b, off, none⟩ ∧ b ≠ g ∧ w.cell? ⟨b, off + j, none⟩ = some (.int k x) := by
  rcases h with h0 | ⟨b, off, rfl, hb, hc⟩
  · rw [List.map_eq_nil_iff] at h0
    subst h0
    simp at hj
  · exact ⟨b, off, rfl, hb, hc j _ (by simp [hj])⟩
theorem appendTwos (w : World) (B g cap n : Nat) (zs : List Int) (a : Option Addr) (m c : Nat) (xs : List Int) (hC : Cap w B g cap zs) (hn : zs.length = n) (hr : Ln g w a (xs.map (.int .u16))) (hl : xs.length = m) (hx : ∀ x ∈ xs, 0 ≤ x ∧ x < 65536) (hroom : n + 2 * m ≤ cap) :
    Calls Tryz.prog 82 #[.slice (some ⟨g, 0, none⟩) n cap, .slice a m c] w fun e w' => e = .returned (.slice (some ⟨g, 0, none⟩) (n + 2 * m) cap) ∧ Cap w' B g cap (zs ++ twos xs) ∧ w.grownBy w' (some g) := by
  have hcl : cap ≤ 140737488355328 := by obtain ⟨_, _, _, _, _, h, _⟩ := hC; exact h
  have HC := hidden hC
  have HR := hidden hr
  have HX := hidden hx
  have HN := hidden hn
  have HL := hidden hl
  clear hC hr hx hn hl
  go_enter Tryz.func82, Tryz.ntmps82
  go_wp2_with fail
  go_loopw [0, 9] (fun v i wr => ∃ k : Nat, k ≤ m ∧ i = .int .i64 k ∧ v = .slice (some ⟨g, 0, none⟩) (n + 2 * k) cap ∧ Cap wr B g cap (zs ++ twos (xs.take k)) ∧ w.grownBy wr (some g)) (fun _ i _ => m - (intOf i).toNat)
  case atStart => exact ⟨0, Nat.zero_le _, rfl, rfl, by simpa [twos] using HC.out, World.grownBy.refl _ _⟩
  case round =>
    obtain ⟨k, hk, rfl, rfl, hcap, hgr⟩ := hrel
    rcases Nat.lt_or_ge k m with hlt | hge
    · obtain ⟨x, hxk⟩ : ∃ x, xs[k]? = some x := ⟨_, List.getElem?_eq_getElem (by rw [HL.out]; exact hlt)⟩
      obtain ⟨b, off, rfl, hbg, hc⟩ := ln_get (HR.out.grown hgr) hxk
      obtain ⟨x0, x1⟩ := HX.out x (List.mem_of_getElem? hxk)
      have HS := hidden (twos_snoc hxk)
      have hd : (x / 256) % 256 = x / 256 := by omega
      have HCP := hidden hcap
      have HGR := hidden hgr
      have HLN := hidden (show (zs ++ twos (xs.take k)).length = n + 2 * k by rw [List.length_append, HN.out, twos_len, List.length_take, HL.out, Nat.min_eq_left hk])
      have hgw : g < wr.heap.size := by obtain ⟨cur, h1, _⟩ := hcap; exact (Array.getElem?_eq_some_iff.1 h1).1
      clear hcap hgr hxk
      go_wp2_with (at_builtin; refine Par.wpList_room rfl _ _ rfl B g cap (n + 2 * k) (zs ++ twos (xs.take k)) rfl HLN.out ?c0 ⟨wr.heap.size, 0, none⟩ 2 2 [x / 256, x % 256] rfl rfl ?c1 ?c2 ?_)
      case c0 => exact HCP.out.later ((Below.refl _ _).alloc (Nat.le_refl _) _)
      case c1 => exact cells_new wr _ 5
      case c2 => omega
      intro w2 hc2 hg2
      have HC2 := hidden hc2
      have HG2 := hidden (gr_trans HGR.out (gr_trans (World.grownBy_alloc wr _ _) hg2))
      clear hc2 hg2
      go_wp2
      go_roundw
      case rel => exact ⟨k + 1, by omega, by go_num, by rw [show n + 2 * (k + 1) = n + 2 * k + 2 by omega], by rw [HS.out]; exact HC2.out, HG2.out⟩
      case measure => simp [intOf]; omega
    · obtain rfl : k = m := by omega
      rw [List.take_of_length_le (by rw [HL.out]; omega)] at hcap
      have HCP := hidden hcap
      clear hcap
      go_wp2
      go_ret
      exact ⟨rfl, HCP.out, hgr⟩
theorem appendFours (w : World) (B g cap n : Nat) (zs : List Int) (a : Option Addr) (m c : Nat) (xs : List Int) (hC : Cap w B g cap zs) (hn : zs.length = n) (hr : Ln g w a (xs.map (.int .u32))) (hl : xs.length = m) (hx : ∀ x ∈ xs, 0 ≤ x ∧ x < 4294967296) (hroom : n + 4 * m ≤ cap) :
    Calls Tryz.prog 102 #[.slice (some ⟨g, 0, none⟩) n cap, .slice a m c] w fun e w' => e = .returned (.slice (some ⟨g, 0, none⟩) (n + 4 * m) cap) ∧ Cap w' B g cap (zs ++ fours xs) ∧ w.grownBy w' (some g) := by
  have hcl : cap ≤ 140737488355328 := by obtain ⟨_, _, _, _, _, h, _⟩ := hC; exact h
  have HC := hidden hC
  have HR := hidden hr
  have HX := hidden hx
  have HN := hidden hn
  have HL := hidden hl
  clear hC hr hx hn hl
  go_enter Tryz.func102, Tryz.ntmps102
  go_wp2_with fail
  go_loopw [0, 9] (fun v i wr => ∃ k : Nat, k ≤ m ∧ i = .int .i64 k ∧ v = .slice (some ⟨g, 0, none⟩) (n + 4 * k) cap ∧ Cap wr B g cap (zs ++ fours (xs.take k)) ∧ w.grownBy wr (some g)) (fun _ i _ => m - (intOf i).toNat)
  case atStart => exact ⟨0, Nat.zero_le _, rfl, rfl, by simpa [fours] using HC.out, World.grownBy.refl _ _⟩
  case round =>
    obtain ⟨k, hk, rfl, rfl, hcap, hgr⟩ := hrel
    rcases Nat.lt_or_ge k m with hlt | hge
    · obtain ⟨x, hxk⟩ : ∃ x, xs[k]? = some x := ⟨_, List.getElem?_eq_getElem (by rw [HL.out]; exact hlt)⟩
      obtain ⟨b, off, rfl, hbg, hc⟩ := ln_get (HR.out.grown hgr) hxk
      obtain ⟨x0, x1⟩ := HX.out x (List.mem_of_getElem? hxk)
      have HS := hidden (fours_snoc hxk)
      have hd : (x / 16777216) % 256 = x / 16777216 := by omega
      have HCP := hidden hcap
      have HGR := hidden hgr
      have HLN := hidden (show (zs ++ fours (xs.take k)).length = n + 4 * k by rw [List.length_append, HN.out, fours_len, List.length_take, HL.out, Nat.min_eq_left hk])
      have hgw : g < wr.heap.size := by obtain ⟨cur, h1, _⟩ := hcap; exact (Array.getElem?_eq_some_iff.1 h1).1
      clear hcap hgr hxk
      go_wp2_with (at_builtin; refine Par.wpList_room rfl _ _ rfl B g cap (n + 4 * k) (zs ++ fours (xs.take k)) rfl HLN.out ?c0 ⟨wr.heap.size, 0, none⟩ 4 4 [x / 16777216, x / 65536 % 256, x / 256 % 256, x % 256] rfl rfl ?c1 ?c2 ?_)
      case c0 => exact HCP.out.later ((Below.refl _ _).alloc (Nat.le_refl _) _)
      case c1 => exact cells_new wr _ 5
      case c2 => omega
      intro w2 hc2 hg2
      have HC2 := hidden hc2
      have HG2 := hidden (gr_trans HGR.out (gr_trans (World.grownBy_alloc wr _ _) hg2))
      clear hc2 hg2
      go_wp2
      go_roundw
      case rel => exact ⟨k + 1, by omega, by go_num, by rw [show n + 4 * (k + 1) = n + 4 * k + 4 by omega], by rw [HS.out]; exact HC2.out, HG2.out⟩
      case measure => simp [intOf]; omega
    · obtain rfl : k = m := by omega
      rw [List.take_of_length_le (by rw [HL.out]; omega)] at hcap
      have HCP := hidden hcap
      clear hcap
      go_wp2
      go_ret
      exact ⟨rfl, HCP.out, hgr⟩
end Go.Proofs.YtmnndkhdekpecaaGreatDoor.Chu
namespace Go.Proofs.YtmnndkhdekpecaaGreatDoor.Chu
open Go.ChangeShapes Go.WideShapes Go.ChangeAt Go.RowKit
open Par (hidden Bytes Row Prm Prms cell_lt Cap cells_new)
set_option linter.unusedVariables false
attribute [local go_sem ↓] execOp_ld execOp_bx execOp_st
attribute [local go_sem] run_box cc_0 cc_1 cc_2 cc_3 cc_4 cc_5 cc_6 cc_7 cc_8 cc_9 cc_10 cc_11 cc_12 cc_13 cc_14

theorem Bx.grown {w w' : World} {B g : Nat} {c : Ck} (h : Bx w B c) (hg : w.grownBy w' (some g)) (hne : B ≠ g) : Bx w' B c := by
  obtain ⟨a1, a2, a3, a4, a5⟩ := hg
  exact (a5 B h.lt (by simpa using hne)).trans h
theorem cap_lt {w : World} {B g cap : Nat} {xs : List Int} (h : Cap w B g cap xs) : g < w.heap.size := by obtain ⟨cur, h1, _⟩ := h; exact (Array.getElem?_eq_some_iff.1 h1).1
theorem cap_alloc {w : World} {B g cap : Nat} {xs : List Int} (h : Cap w B g cap xs) (o : Obj) : Cap (w.alloc o) B g cap xs := h.later ((Below.refl _ _).alloc (Nat.le_refl _) _)
theorem ln_new (W : World) (c : Array Value) (t : TypeId) (g : Nat) (hg : g < W.heap.size) : Ln g (W.alloc (.cells c t)) (some ⟨W.heap.size, 0, none⟩) c.toList := by
  refine .inr ⟨_, 0, rfl, by omega, fun j u hj => ?_⟩
  have h : (W.alloc (.cells c t)).heap[W.heap.size]? = some (.cells c t) := heap_alloc_new W _
  rw [Nat.zero_add]
  simp only [World.cell?, h]
  simpa using hj
/-- so far: the row, and what has not been touched -/
def Wr (w : World) (B g cap : Nat) (w' : World) (zs : List Int) : Prop := Cap w' B g cap zs ∧ w.grownBy w' (some g)
theorem Wr.alloc {w w' : World} {B g cap : Nat} {zs : List Int} (h : Wr w B g cap w' zs) (o : Obj) : Wr w B g cap (w'.alloc o) zs := ⟨cap_alloc h.1 o, gr_trans h.2 (World.grownBy_alloc _ _ _)⟩
theorem Wr.trans {w w' w2 : World} {B g cap : Nat} {zs ys : List Int} (h : Wr w B g cap w' zs) (h2 : Wr w' B g cap w2 ys) : Wr w B g cap w2 ys := ⟨h2.1, gr_trans h.2 h2.2⟩
/-- a new row of numbers is appended -/
theorem newTwos {w W : World} {B g cap n : Nat} {zs : List Int} (h : Wr w B g cap W zs) (hn : zs.length = n) (xs : List Int) (m : Nat) (hm : xs.length = m) (hx : ∀ x ∈ xs, 0 ≤ x ∧ x < 65536) (hroom : n + 2 * m ≤ cap) :
    Calls Tryz.prog 82 #[.slice (some ⟨g, 0, none⟩) n cap, .slice (some ⟨W.heap.size, 0, none⟩) m m] (W.alloc (.cells (xs.map (.int .u16)).toArray 22)) fun e w' => e = .returned (.slice (some ⟨g, 0, none⟩) (n + 2 * m) cap) ∧ Wr w B g cap w' (zs ++ twos xs) :=
  (appendTwos _ B g cap n zs _ m m xs (cap_alloc h.1 _) hn (ln_new W _ _ g (cap_lt h.1)) hm hx hroom).mono (by
    rintro e w' ⟨rfl, h1, h2⟩
    exact ⟨rfl, (h.alloc _).trans ⟨h1, h2⟩⟩)
theorem newFours {w W : World} {B g cap n : Nat} {zs : List Int} (h : Wr w B g cap W zs) (hn : zs.length = n) (xs : List Int) (m : Nat) (hm : xs.length = m) (hx : ∀ x ∈ xs, 0 ≤ x ∧ x < 4294967296) (hroom : n + 4 * m ≤ cap) :
    Calls Tryz.prog 102 #[.slice (some ⟨g, 0, none⟩) n cap, .slice (some ⟨W.heap.size, 0, none⟩) m m] (W.alloc (.cells (xs.map (.int .u32)).toArray 23)) fun e w' => e = .returned (.slice (some ⟨g, 0, none⟩) (n + 4 * m) cap) ∧ Wr w B g cap w' (zs ++ fours xs) :=
  (appendFours _ B g cap n zs _ m m xs (cap_alloc h.1 _) hn (ln_new W _ _ g (cap_lt h.1)) hm hx hroom).mono (by
    rintro e w' ⟨rfl, h1, h2⟩
    exact ⟨rfl, (h.alloc _).trans ⟨h1, h2⟩⟩)
/-- gaps as bytes -/
def gbytes (gs : List (Int × Int)) : List Int := gs.flatMap fun g => twos [g.1, g.2]
theorem gbytes_len (gs : List (Int × Int)) : (gbytes gs).length = 4 * gs.length := by
  induction gs with
  | nil => rfl
  | cons x gs ih => rw [show gbytes (x :: gs) = twos [x.1, x.2] ++ gbytes gs from rfl, List.length_append, ih, twos_len]; simp; omega
theorem gbytes_snoc {gs : List (Int × Int)} {k : Nat} {x : Int × Int} (h : gs[k]? = some x) : gbytes (gs.take (k + 1)) = gbytes (gs.take k) ++ twos [x.1, x.2] := by
  rw [List.take_add_one, h]; unfold gbytes; rw [List.flatMap_append]; simp
theorem two_in {a b : Int} (ha : 0 ≤ a ∧ a < 65536) (hb : 0 ≤ b ∧ b < 65536) : ∀ x ∈ [a, b], 0 ≤ x ∧ x < 65536 := by
  intro x hx; simp only [List.mem_cons, List.not_mem_nil, or_false] at hx; rcases hx with rfl | rfl
  · exact ha
  · exact hb
theorem appendGaps (w : World) (B g cap n : Nat) (zs : List Int) (a : Option Addr) (m c : Nat) (gs : List (Int × Int)) (hC : Cap w B g cap zs) (hn : zs.length = n) (hr : Gaps 0 w a m gs) (hne : 0 < m → ∀ b off, a = some ⟨b, off, none⟩ → b ≠ g) (hroom : n + 4 * m ≤ cap) :
    Calls Tryz.prog 103 #[.slice (some ⟨g, 0, none⟩) n cap, .slice a m c] w fun e w' => e = .returned (.slice (some ⟨g, 0, none⟩) (n + 4 * m) cap) ∧ Cap w' B g cap (zs ++ gbytes gs) ∧ w.grownBy w' (some g) := by
  have hcl : cap ≤ 140737488355328 := by obtain ⟨_, _, _, _, _, h, _⟩ := hC; exact h
  have HC := hidden hC
  have HR := hidden hr
  have HN := hidden hn
  have HNE := hidden hne
  have HL := hidden hr.1
  clear hC hr hn hne
  go_enter Tryz.func103, Tryz.ntmps103
  go_wp2_with fail
  go_loopw [0, 9] (fun v i wr => ∃ k : Nat, k ≤ m ∧ i = .int .i64 k ∧ v = .slice (some ⟨g, 0, none⟩) (n + 4 * k) cap ∧ Wr w B g cap wr (zs ++ gbytes (gs.take k))) (fun _ i _ => m - (intOf i).toNat)
  case atStart => exact ⟨0, Nat.zero_le _, rfl, rfl, by simpa [gbytes] using HC.out, World.grownBy.refl _ _⟩
  case round =>
    obtain ⟨k, hk, rfl, rfl, hW⟩ := hrel
    rcases Nat.lt_or_ge k m with hlt | hge
    · obtain ⟨b, off, s, e, rfl, hgk, hc1, hc2, hs, he⟩ := HR.out.get hlt
      have hbg := HNE.out (by omega) b off rfl
      have d1 := hW.2.cell hc1 (by simpa using hbg)
      have d2 := hW.2.cell hc2 (by simpa using hbg)
      have HS := hidden (gbytes_snoc hgk)
      have HLN := hidden (show (zs ++ gbytes (gs.take k)).length = n + 4 * k by rw [List.length_append, HN.out, gbytes_len, List.length_take, HL.out, Nat.min_eq_left hk])
      have T := hidden (newTwos (hW.alloc (.cells #[.int .u16 s, .int .u16 e] 106)) HLN.out [s, e] 2 rfl (two_in hs he) (by omega))
      clear hW hgk hc1 hc2
      simp only [World.size_alloc] at T
      go_wp2_with fail
      refine Calls.mono T.out ?_
      rintro e' w2 ⟨rfl, hW2⟩
      have HW2 := hidden hW2
      clear hW2 T d1 d2
      go_wp2
      go_roundw
      case rel => exact ⟨k + 1, by omega, by go_num, by rw [show n + 4 * (k + 1) = n + 4 * k + 2 * 2 by omega], by rw [HS.out, ← List.append_assoc]; exact HW2.out⟩
      case measure => simp [intOf]; omega
    · obtain rfl : k = m := by omega
      rw [List.take_of_length_le (by rw [HL.out]; omega)] at hW
      have HW := hidden hW
      clear hW
      go_wp2
      go_ret
      exact ⟨rfl, HW.out⟩
/-- the numbers of a value, as bytes -/
def numB (c : Ck) : List Int :=
  if c.kind = 0 then fours [c.tsn] ++ twos [c.stream, c.ssn] ++ fours [c.proto]
  else if c.kind = 1 ∨ c.kind = 2 then fours [c.tag, c.win] ++ twos [c.out, c.inn] ++ fours [c.tsn]
  else if c.kind = 3 then fours [c.tsn, c.win] ++ twos [(c.gl : Int), (c.dl : Int)]
  else if c.kind = 16 then fours [c.tsn, c.win] ++ twos [(c.gl : Int), (c.nl : Int), (c.dl : Int), 0]
  else if c.kind = 7 then fours [c.tsn] else []
theorem one32 {a : Int} (ha : 0 ≤ a ∧ a < 4294967296) : ∀ x ∈ [a], 0 ≤ x ∧ x < 4294967296 := by
  intro x hx; simp only [List.mem_cons, List.not_mem_nil, or_false] at hx; subst hx; exact ha
theorem two32 {a b : Int} (ha : 0 ≤ a ∧ a < 4294967296) (hb : 0 ≤ b ∧ b < 4294967296) : ∀ x ∈ [a, b], 0 ≤ x ∧ x < 4294967296 := by
  intro x hx; simp only [List.mem_cons, List.not_mem_nil, or_false] at hx; rcases hx with rfl | rfl
  · exact ha
  · exact hb
theorem four_in {a b c d : Int} (ha : 0 ≤ a ∧ a < 65536) (hb : 0 ≤ b ∧ b < 65536) (hc : 0 ≤ c ∧ c < 65536) (hd : 0 ≤ d ∧ d < 65536) : ∀ x ∈ [a, b, c, d], 0 ≤ x ∧ x < 65536 := by
  intro x hx; simp only [List.mem_cons, List.not_mem_nil, or_false] at hx; rcases hx with rfl | rfl | rfl | rfl
  · exact ha
  · exact hb
  · exact hc
  · exact hd
theorem nums_of {c : Ck} (h : Nums c) : (0 ≤ c.tsn ∧ c.tsn < 4294967296) ∧ (0 ≤ c.stream ∧ c.stream < 65536) ∧ (0 ≤ c.ssn ∧ c.ssn < 65536) ∧ (0 ≤ c.proto ∧ c.proto < 4294967296) ∧ (0 ≤ c.tag ∧ c.tag < 4294967296) ∧ (0 ≤ c.win ∧ c.win < 4294967296) ∧ (0 ≤ c.out ∧ c.out < 65536) ∧ (0 ≤ c.inn ∧ c.inn < 65536) := ⟨h.2.2.1, h.2.2.2.1, h.2.2.2.2.1, h.2.2.2.2.2.1, h.2.2.2.2.2.2.1, h.2.2.2.2.2.2.2.1, h.2.2.2.2.2.2.2.2.1, h.2.2.2.2.2.2.2.2.2⟩
set_option maxHeartbeats 4000000 in
theorem appendNumbers (w : World) (B g cap n : Nat) (zs : List Int) (c : Ck) (hC : Cap w B g cap zs) (hn : zs.length = n) (hnum : Nums c) (hg : c.gl ≤ 4096) (hr : c.nl ≤ 4096) (hd : c.dl ≤ 4096) (hroom : n + nb c.kind ≤ cap) :
    Calls Tryz.prog 83 #[.slice (some ⟨g, 0, none⟩) n cap, cv c] w fun e w' => e = .returned (.slice (some ⟨g, 0, none⟩) (n + nb c.kind) cap) ∧ Wr w B g cap w' (zs ++ numB c) := by
  have hcl : cap ≤ 140737488355328 := by obtain ⟨_, _, _, _, _, h, _⟩ := hC; exact h
  obtain ⟨n2, n3, n4, n5, n6, n7, n8, n9⟩ := nums_of hnum
  have hgw := cap_lt hC
  have HWA := hidden ((show Wr w B g cap w zs from ⟨hC, World.grownBy.refl _ _⟩).alloc (.cells (cc c) 59))
  have HW0 := hidden (show Wr (w.alloc (.cells (cc c) 59)) B g cap (w.alloc (.cells (cc c) 59)) zs from ⟨HWA.out.1, World.grownBy.refl _ _⟩)
  have H0 := hidden (Bx.new w c)
  have HNE := hidden (show w.heap.size ≠ g by omega)
  have hw16 : ∀ x : Int, IntKind.u16.wrap x = x % 65536 := fun _ => rfl
  have u1 : (c.gl : Int) % 65536 = c.gl := by omega
  have u2 : (c.nl : Int) % 65536 = c.nl := by omega
  have u3 : (c.dl : Int) % 65536 = c.dl := by omega
  have k0 := H0.out.c0
  clear hC hnum hgw
  go_enter Tryz.func83, Tryz.ntmps83
  rcases kind_cases c.kind with hk | hk | hk | hk | hk | hk | hk | hk | hk | hk | hk | hk | hk | hk | hk
  · have HM := hidden (show nb c.kind = 12 by rw [hk]; rfl)
    have HV := hidden (show numB c = fours [c.tsn] ++ twos [c.stream, c.ssn] ++ fours [c.proto] by unfold numB; simp [hk])
    rw [HM.out] at hroom
    have k2 := H0.out.c2
    have T := hidden (newFours HW0.out hn [c.tsn] 1 rfl (one32 n2) (by omega))
    simp only [World.size_alloc] at T
    go_wp2_with fail
    refine Calls.mono T.out ?_
    rintro e' w1 ⟨rfl, hW⟩
    have HW1 := hidden hW
    have H1 := hidden (H0.out.grown HW1.out.2 HNE.out)
    clear hW T k2 k0
    have hn1 : (zs ++ fours [c.tsn]).length = n + 4 := by simp [fours_len, hn]
    have k3 := H1.out.c3
    have k4 := H1.out.c4
    have T := hidden (newTwos HW1.out hn1 [c.stream, c.ssn] 2 rfl (two_in n3 n4) (by omega))
    go_wp2_with fail
    refine Calls.mono T.out ?_
    rintro e' w2 ⟨rfl, hW⟩
    have HW2 := hidden hW
    have H2 := hidden (H0.out.grown HW2.out.2 HNE.out)
    clear hW T k3 k4
    have hn2 : ((zs ++ fours [c.tsn]) ++ twos [c.stream, c.ssn]).length = n + 8 := by simp [twos_len, fours_len, hn]
    have k5 := H2.out.c5
    have T := hidden (newFours HW2.out hn2 [c.proto] 1 rfl (one32 n5) (by omega))
    go_wp2_with fail
    refine Calls.mono T.out ?_
    rintro e' w3 ⟨rfl, hW⟩
    have HW3 := hidden hW
    have H3 := hidden (H0.out.grown HW3.out.2 HNE.out)
    clear hW T k5
    have hn3 : (((zs ++ fours [c.tsn]) ++ twos [c.stream, c.ssn]) ++ fours [c.proto]).length = n + 12 := by simp [twos_len, fours_len, hn]
    go_wp2
    go_ret
    exact ⟨by rw [HM.out]; rfl, by rw [HV.out]; simpa only [List.append_assoc, List.append_nil] using HWA.out.trans HW3.out⟩
  · have HM := hidden (show nb c.kind = 16 by rw [hk]; rfl)
    have HV := hidden (show numB c = fours [c.tag, c.win] ++ twos [c.out, c.inn] ++ fours [c.tsn] by unfold numB; simp [hk])
    rw [HM.out] at hroom
    have k6 := H0.out.c6
    have k7 := H0.out.c7
    have T := hidden (newFours HW0.out hn [c.tag, c.win] 2 rfl (two32 n6 n7) (by omega))
    simp only [World.size_alloc] at T
    go_wp2_with fail
    refine Calls.mono T.out ?_
    rintro e' w1 ⟨rfl, hW⟩
    have HW1 := hidden hW
    have H1 := hidden (H0.out.grown HW1.out.2 HNE.out)
    clear hW T k6 k7 k0
    have hn1 : (zs ++ fours [c.tag, c.win]).length = n + 8 := by simp [fours_len, hn]
    have k8 := H1.out.c8
    have k9 := H1.out.c9
    have T := hidden (newTwos HW1.out hn1 [c.out, c.inn] 2 rfl (two_in n8 n9) (by omega))
    go_wp2_with fail
    refine Calls.mono T.out ?_
    rintro e' w2 ⟨rfl, hW⟩
    have HW2 := hidden hW
    have H2 := hidden (H0.out.grown HW2.out.2 HNE.out)
    clear hW T k8 k9
    have hn2 : ((zs ++ fours [c.tag, c.win]) ++ twos [c.out, c.inn]).length = n + 12 := by simp [twos_len, fours_len, hn]
    have k2 := H2.out.c2
    have T := hidden (newFours HW2.out hn2 [c.tsn] 1 rfl (one32 n2) (by omega))
    go_wp2_with fail
    refine Calls.mono T.out ?_
    rintro e' w3 ⟨rfl, hW⟩
    have HW3 := hidden hW
    have H3 := hidden (H0.out.grown HW3.out.2 HNE.out)
    clear hW T k2
    have hn3 : (((zs ++ fours [c.tag, c.win]) ++ twos [c.out, c.inn]) ++ fours [c.tsn]).length = n + 16 := by simp [twos_len, fours_len, hn]
    go_wp2
    go_ret
    exact ⟨by rw [HM.out]; rfl, by rw [HV.out]; simpa only [List.append_assoc, List.append_nil] using HWA.out.trans HW3.out⟩
  · have HM := hidden (show nb c.kind = 16 by rw [hk]; rfl)
    have HV := hidden (show numB c = fours [c.tag, c.win] ++ twos [c.out, c.inn] ++ fours [c.tsn] by unfold numB; simp [hk])
    rw [HM.out] at hroom
    have k6 := H0.out.c6
    have k7 := H0.out.c7
    have T := hidden (newFours HW0.out hn [c.tag, c.win] 2 rfl (two32 n6 n7) (by omega))
    simp only [World.size_alloc] at T
    go_wp2_with fail
    refine Calls.mono T.out ?_
    rintro e' w1 ⟨rfl, hW⟩
    have HW1 := hidden hW
    have H1 := hidden (H0.out.grown HW1.out.2 HNE.out)
    clear hW T k6 k7 k0
    have hn1 : (zs ++ fours [c.tag, c.win]).length = n + 8 := by simp [fours_len, hn]
    have k8 := H1.out.c8
    have k9 := H1.out.c9
    have T := hidden (newTwos HW1.out hn1 [c.out, c.inn] 2 rfl (two_in n8 n9) (by omega))
    go_wp2_with fail
    refine Calls.mono T.out ?_
    rintro e' w2 ⟨rfl, hW⟩
    have HW2 := hidden hW
    have H2 := hidden (H0.out.grown HW2.out.2 HNE.out)
    clear hW T k8 k9
    have hn2 : ((zs ++ fours [c.tag, c.win]) ++ twos [c.out, c.inn]).length = n + 12 := by simp [twos_len, fours_len, hn]
    have k2 := H2.out.c2
    have T := hidden (newFours HW2.out hn2 [c.tsn] 1 rfl (one32 n2) (by omega))
    go_wp2_with fail
    refine Calls.mono T.out ?_
    rintro e' w3 ⟨rfl, hW⟩
    have HW3 := hidden hW
    have H3 := hidden (H0.out.grown HW3.out.2 HNE.out)
    clear hW T k2
    have hn3 : (((zs ++ fours [c.tag, c.win]) ++ twos [c.out, c.inn]) ++ fours [c.tsn]).length = n + 16 := by simp [twos_len, fours_len, hn]
    go_wp2
    go_ret
    exact ⟨by rw [HM.out]; rfl, by rw [HV.out]; simpa only [List.append_assoc, List.append_nil] using HWA.out.trans HW3.out⟩
  · have HM := hidden (show nb c.kind = 12 by rw [hk]; rfl)
    have HV := hidden (show numB c = fours [c.tsn, c.win] ++ twos [(c.gl : Int), (c.dl : Int)] by unfold numB; simp [hk])
    rw [HM.out] at hroom
    have k2 := H0.out.c2
    have k7 := H0.out.c7
    have T := hidden (newFours HW0.out hn [c.tsn, c.win] 2 rfl (two32 n2 n7) (by omega))
    simp only [World.size_alloc] at T
    go_wp2_with fail
    refine Calls.mono T.out ?_
    rintro e' w1 ⟨rfl, hW⟩
    have HW1 := hidden hW
    have H1 := hidden (H0.out.grown HW1.out.2 HNE.out)
    clear hW T k2 k7 k0
    have hn1 : (zs ++ fours [c.tsn, c.win]).length = n + 8 := by simp [fours_len, hn]
    have k10 := H1.out.c10
    have k12 := H1.out.c12
    have T := hidden (newTwos HW1.out hn1 [(c.gl : Int), (c.dl : Int)] 2 rfl (two_in (by omega) (by omega)) (by omega))
    go_wp2_with fail
    refine Calls.mono T.out ?_
    rintro e' w2 ⟨rfl, hW⟩
    have HW2 := hidden hW
    have H2 := hidden (H0.out.grown HW2.out.2 HNE.out)
    clear hW T k10 k12
    have hn2 : ((zs ++ fours [c.tsn, c.win]) ++ twos [(c.gl : Int), (c.dl : Int)]).length = n + 12 := by simp [twos_len, fours_len, hn]
    go_wp2
    go_ret
    exact ⟨by rw [HM.out]; rfl, by rw [HV.out]; simpa only [List.append_assoc, List.append_nil] using HWA.out.trans HW2.out⟩
  · have HM := hidden (show nb c.kind = 0 by rw [hk]; rfl)
    have HV := hidden (show numB c = [] by unfold numB; simp [hk])
    rw [HM.out] at hroom
    go_wp2
    go_ret
    exact ⟨by rw [HM.out]; rfl, by rw [HV.out]; simpa only [List.append_assoc, List.append_nil] using HWA.out.trans HW0.out⟩
  · have HM := hidden (show nb c.kind = 0 by rw [hk]; rfl)
    have HV := hidden (show numB c = [] by unfold numB; simp [hk])
    rw [HM.out] at hroom
    go_wp2
    go_ret
    exact ⟨by rw [HM.out]; rfl, by rw [HV.out]; simpa only [List.append_assoc, List.append_nil] using HWA.out.trans HW0.out⟩
  · have HM := hidden (show nb c.kind = 0 by rw [hk]; rfl)
    have HV := hidden (show numB c = [] by unfold numB; simp [hk])
    rw [HM.out] at hroom
    go_wp2
    go_ret
    exact ⟨by rw [HM.out]; rfl, by rw [HV.out]; simpa only [List.append_assoc, List.append_nil] using HWA.out.trans HW0.out⟩
  · have HM := hidden (show nb c.kind = 4 by rw [hk]; rfl)
    have HV := hidden (show numB c = fours [c.tsn] by unfold numB; simp [hk])
    rw [HM.out] at hroom
    have k2 := H0.out.c2
    have T := hidden (newFours HW0.out hn [c.tsn] 1 rfl (one32 n2) (by omega))
    simp only [World.size_alloc] at T
    go_wp2_with fail
    refine Calls.mono T.out ?_
    rintro e' w1 ⟨rfl, hW⟩
    have HW1 := hidden hW
    have H1 := hidden (H0.out.grown HW1.out.2 HNE.out)
    clear hW T k2 k0
    have hn1 : (zs ++ fours [c.tsn]).length = n + 4 := by simp [fours_len, hn]
    go_wp2
    go_ret
    exact ⟨by rw [HM.out]; rfl, by rw [HV.out]; simpa only [List.append_assoc, List.append_nil] using HWA.out.trans HW1.out⟩
  · have HM := hidden (show nb c.kind = 0 by rw [hk]; rfl)
    have HV := hidden (show numB c = [] by unfold numB; simp [hk])
    rw [HM.out] at hroom
    go_wp2
    go_ret
    exact ⟨by rw [HM.out]; rfl, by rw [HV.out]; simpa only [List.append_assoc, List.append_nil] using HWA.out.trans HW0.out⟩
  · have HM := hidden (show nb c.kind = 0 by rw [hk]; rfl)
    have HV := hidden (show numB c = [] by unfold numB; simp [hk])
    rw [HM.out] at hroom
    go_wp2
    go_ret
    exact ⟨by rw [HM.out]; rfl, by rw [HV.out]; simpa only [List.append_assoc, List.append_nil] using HWA.out.trans HW0.out⟩
  · have HM := hidden (show nb c.kind = 0 by rw [hk]; rfl)
    have HV := hidden (show numB c = [] by unfold numB; simp [hk])
    rw [HM.out] at hroom
    go_wp2
    go_ret
    exact ⟨by rw [HM.out]; rfl, by rw [HV.out]; simpa only [List.append_assoc, List.append_nil] using HWA.out.trans HW0.out⟩
  · have HM := hidden (show nb c.kind = 0 by rw [hk]; rfl)
    have HV := hidden (show numB c = [] by unfold numB; simp [hk])
    rw [HM.out] at hroom
    go_wp2
    go_ret
    exact ⟨by rw [HM.out]; rfl, by rw [HV.out]; simpa only [List.append_assoc, List.append_nil] using HWA.out.trans HW0.out⟩
  · have HM := hidden (show nb c.kind = 0 by rw [hk]; rfl)
    have HV := hidden (show numB c = [] by unfold numB; simp [hk])
    rw [HM.out] at hroom
    go_wp2
    go_ret
    exact ⟨by rw [HM.out]; rfl, by rw [HV.out]; simpa only [List.append_assoc, List.append_nil] using HWA.out.trans HW0.out⟩
  · have HM := hidden (show nb c.kind = 16 by rw [hk]; rfl)
    have HV := hidden (show numB c = fours [c.tsn, c.win] ++ twos [(c.gl : Int), (c.nl : Int), (c.dl : Int), 0] by unfold numB; simp [hk])
    rw [HM.out] at hroom
    have k2 := H0.out.c2
    have k7 := H0.out.c7
    have T := hidden (newFours HW0.out hn [c.tsn, c.win] 2 rfl (two32 n2 n7) (by omega))
    simp only [World.size_alloc] at T
    go_wp2_with fail
    refine Calls.mono T.out ?_
    rintro e' w1 ⟨rfl, hW⟩
    have HW1 := hidden hW
    have H1 := hidden (H0.out.grown HW1.out.2 HNE.out)
    clear hW T k2 k7 k0
    have hn1 : (zs ++ fours [c.tsn, c.win]).length = n + 8 := by simp [fours_len, hn]
    have k10 := H1.out.c10
    have k11 := H1.out.c11
    have k12 := H1.out.c12
    have T := hidden (newTwos HW1.out hn1 [(c.gl : Int), (c.nl : Int), (c.dl : Int), 0] 4 rfl (four_in (by omega) (by omega) (by omega) (by omega)) (by omega))
    go_wp2_with fail
    refine Calls.mono T.out ?_
    rintro e' w2 ⟨rfl, hW⟩
    have HW2 := hidden hW
    have H2 := hidden (H0.out.grown HW2.out.2 HNE.out)
    clear hW T k10 k11 k12
    have hn2 : ((zs ++ fours [c.tsn, c.win]) ++ twos [(c.gl : Int), (c.nl : Int), (c.dl : Int), 0]).length = n + 16 := by simp [twos_len, fours_len, hn]
    go_wp2
    go_ret
    exact ⟨by rw [HM.out]; rfl, by rw [HV.out]; simpa only [List.append_assoc, List.append_nil] using HWA.out.trans HW2.out⟩
  · have HKK := hidden hk
    obtain ⟨h0, h1, h2, h3, h4, h5, h6, h7, h8, h9, h10, h11, h14, h16⟩ := hk
    have e0 := beq_f h0
    have e1 := beq_f h1
    have e2 := beq_f h2
    have e3 := beq_f h3
    have e4 := beq_f h4
    have e5 := beq_f h5
    have e6 := beq_f h6
    have e7 := beq_f h7
    have e8 := beq_f h8
    have e9 := beq_f h9
    have e10 := beq_f h10
    have e11 := beq_f h11
    have e14 := beq_f h14
    have e16 := beq_f h16
    have HV := hidden (show numB c = [] by unfold numB; rw [if_neg h0, if_neg (by simp [h1, h2]), if_neg h3, if_neg h16, if_neg h7])
    have HM := hidden (show nb c.kind = 0 by simp [nb, h0, h1, h2, h3, h7, h16])
    clear h0 h1 h2 h3 h4 h5 h6 h7 h8 h9 h10 h11 h14 h16
    go_wp2
    go_ret
    exact ⟨by rw [HM.out]; rfl, by rw [HV.out]; simpa only [List.append_assoc, List.append_nil] using HWA.out.trans HW0.out⟩
end Go.Proofs.YtmnndkhdekpecaaGreatDoor.Chu
namespace Go.Proofs.YtmnndkhdekpecaaGreatDoor.Chu
open Go.ChangeShapes Go.WideShapes Go.ChangeAt Go.RowKit
open Par (hidden Bytes Row Prm Prms cell_lt Cap cells_new)
set_option linter.unusedVariables false
attribute [local go_sem ↓] execOp_ld execOp_bx execOp_st
attribute [local go_sem] run_box cc_0 cc_1 cc_2 cc_3 cc_4 cc_5 cc_6 cc_7 cc_8 cc_9 cc_10 cc_11 cc_12 cc_13 cc_14

theorem ln_of {base g : Nat} {w0 w : World} {a : Option Addr} {xs : List Value} (h : Lies base w0 a xs) (hb : Below w0.heap.size w0 w) (hg : w0.heap.size ≤ g) : Ln g w a xs := by
  rcases h with h0 | ⟨b, off, rfl, _, hc⟩
  · exact .inl h0
  · rcases xs with _ | ⟨x, xs⟩
    · exact .inl rfl
    · have hlt : b < w0.heap.size := cell_lt (hc 0 x rfl)
      exact .inr ⟨b, off, rfl, by omega, fun j u hj => (hb.cell (cell_lt (hc j u hj))).trans (hc j u hj)⟩
theorem ne_of {base g m : Nat} {w0 : World} {a : Option Addr} {gs : List (Int × Int)} (h : Gaps base w0 a m gs) (hg : w0.heap.size ≤ g) : 0 < m → ∀ b off, a = some ⟨b, off, none⟩ → b ≠ g := by
  intro hm b off e
  obtain ⟨b', off', s, e', e2, _, hc, _⟩ := h.get hm
  rw [e] at e2
  cases e2
  have := cell_lt hc
  simp only at this
  omega
/-- the value's bytes behind the numbers -/
def lisB (v : Ch) : List Int := gbytes v.gs ++ gbytes v.ns ++ fours v.ds ++ Par.enc v.ps ++ v.bs
set_option maxHeartbeats 1000000 in
theorem appendLists (base : Nat) (w0 w : World) (g cap n : Nat) (zs : List Int) (c : Ck) (hc : Chk base w0 c) (hb : Below w0.heap.size w0 w) (hC : Cap w w0.heap.size g cap zs) (hn : zs.length = n) (hp : pcode (c.ps.map Par.val) = 0)
    (hroom : n + 4 * c.gl + 4 * c.nl + 4 * c.dl + (Par.enc (c.ps.map Par.val)).length + c.bl ≤ cap) :
    Calls Tryz.prog 84 #[.slice (some ⟨g, 0, none⟩) n cap, cv c] w fun e w' => e = .returned (.slice (some ⟨g, 0, none⟩) (n + 4 * c.gl + 4 * c.nl + 4 * c.dl + (Par.enc (c.ps.map Par.val)).length + c.bl) cap) ∧ Cap w' w0.heap.size g cap (zs ++ lisB (val c)) ∧ Below w0.heap.size w0 w' := by
  have hcl : cap ≤ 140737488355328 := by obtain ⟨_, _, _, _, _, h, _⟩ := hC; exact h
  have hg0 : w0.heap.size ≤ g := by obtain ⟨_, _, h, _⟩ := hC; exact h
  have hgw := cap_lt hC
  obtain ⟨hnum, hg, hr, hd, hbd, hbn, hps⟩ := hc
  have hbB := hb.alloc hb.size (.cells (cc c) 59)
  have HB0 := hidden hbB
  have HC0 := hidden (cap_alloc hC (.cells (cc c) 59))
  have H0 := hidden (Bx.new w c)
  have HNE := hidden (show w.heap.size ≠ g by omega)
  have HG := hidden hg
  have HR := hidden hr
  have HD := hidden hd
  have HBD := hidden hbd
  have HBN := hidden hbn
  have HPS := hidden hps
  have l1 := hg.1
  have l2 := hr.1
  have l3 := hd.1
  have l4 := hbd.1
  have HPC := hidden hp
  have k10 := H0.out.c10
  clear hC hbB hg hr hd hbd hbn hps hb
  have A1 := hidden (appendGaps (w.alloc (.cells (cc c) 59)) w0.heap.size g cap n zs c.ga c.gl c.gc c.gs HC0.out hn ((HG.out.later HB0.out).mono (Nat.zero_le _)) (ne_of HG.out hg0) (by omega))
  go_enter Tryz.func84, Tryz.ntmps84
  go_wp2_with fail
  refine Calls.mono A1.out ?_
  rintro e w1 ⟨rfl, hc1, g1⟩
  have HC1 := hidden hc1
  have HB1 := hidden (HB0.out.grown g1 HB0.out.size (fun k hk => by cases hk; exact hg0))
  have H1 := hidden (H0.out.grown g1 HNE.out)
  have hn1 : (zs ++ gbytes c.gs).length = n + 4 * c.gl := by rw [List.length_append, gbytes_len, hn, l1]
  have k11 := H1.out.c11
  clear hc1 g1 A1 k10 HC0
  have A2 := hidden (appendGaps w1 w0.heap.size g cap (n + 4 * c.gl) _ c.na c.nl c.nc c.ns HC1.out hn1 ((HR.out.later HB1.out).mono (Nat.zero_le _)) (ne_of HR.out hg0) (by omega))
  go_wp2_with fail
  refine Calls.mono A2.out ?_
  rintro e w2 ⟨rfl, hc2, g2⟩
  have HC2 := hidden hc2
  have HB2 := hidden (HB1.out.grown g2 HB1.out.size (fun k hk => by cases hk; exact hg0))
  have H2 := hidden (H1.out.grown g2 HNE.out)
  have hn2 : (zs ++ gbytes c.gs ++ gbytes c.ns).length = n + 4 * c.gl + 4 * c.nl := by rw [List.length_append, gbytes_len, hn1, l2]
  have k12 := H2.out.c12
  clear hc2 g2 A2 k11 HC1 HB1 H1
  have A3 := hidden (appendFours w2 w0.heap.size g cap (n + 4 * c.gl + 4 * c.nl) _ c.da c.dl c.dc c.ds HC2.out hn2 (ln_of HD.out.2.2.2 HB2.out hg0) l3 HD.out.2.2.1 (by omega))
  go_wp2_with fail
  refine Calls.mono A3.out ?_
  rintro e w3 ⟨rfl, hc3, g3⟩
  have HC3 := hidden hc3
  have HB3 := hidden (HB2.out.grown g3 HB2.out.size (fun k hk => by cases hk; exact hg0))
  have H3 := hidden (H2.out.grown g3 HNE.out)
  have hn3 : (zs ++ gbytes c.gs ++ gbytes c.ns ++ fours c.ds).length = n + 4 * c.gl + 4 * c.nl + 4 * c.dl := by rw [List.length_append, fours_len, hn2, l3]
  have k14 := H3.out.c14
  clear hc3 g3 A3 k12 HC2 HB2 H2
  have E := hidden (Par.encode base w3 c.pa c.pl c.pc c.ps (HPS.out.later HB3.out))
  go_wp2_with fail
  refine Calls.mono E.out ?_
  rintro e w4 ⟨v, cd, rfl, hcd, _, h0, b4⟩
  obtain rfl : cd = 0 := (code_val HPS.out.2.2.1 hcd).trans HPC.out
  obtain ⟨g2, cap2, rfl, hcap2⟩ := h0 rfl
  have HC4 := hidden (HC3.out.later b4)
  have HB4 := hidden (HB3.out.trans (b4.mono HB3.out.size))
  have H4 := hidden (H3.out.later b4)
  have HN4 := hidden ((hcap2.row (Par.enc_bytes _ (Par.vals_bytes HPS.out.2.2.1))).news)
  clear hcd h0 b4 hcap2 E k14 HC3 HB3 H3
  generalize hE : Par.enc (c.ps.map Par.val) = P at *
  have HE := hidden hE
  clear hE
  go_wp2_with (at_builtin; refine Par.wpList_room rfl _ _ rfl w0.heap.size g cap (n + 4 * c.gl + 4 * c.nl + 4 * c.dl) (zs ++ gbytes c.gs ++ gbytes c.ns ++ fours c.ds) rfl hn3 HC4.out ⟨g2, 0, none⟩ P.length cap2 P rfl rfl HN4.out (by omega) ?_)
  intro w5 hc5 g5
  have HB5 := hidden (HB4.out.grown g5 HB4.out.size (fun k hk => by cases hk; exact hg0))
  have H5 := hidden (H4.out.grown g5 HNE.out)
  have hn5 : (zs ++ (gbytes c.gs ++ (gbytes c.ns ++ (fours c.ds ++ P)))).length = n + 4 * c.gl + 4 * c.nl + 4 * c.dl + P.length := by
    rw [show zs ++ (gbytes c.gs ++ (gbytes c.ns ++ (fours c.ds ++ P))) = zs ++ gbytes c.gs ++ gbytes c.ns ++ fours c.ds ++ P by simp only [List.append_assoc], List.length_append, hn3]
  have HC5 := hidden hc5
  have HBR := hidden (HBD.out.later HB5.out)
  have k13 := H5.out.c13
  have HLB := hidden (show zs ++ lisB (val c) = zs ++ (gbytes c.gs ++ (gbytes c.ns ++ (fours c.ds ++ P))) ++ c.bs by unfold lisB; rw [show Par.enc (val c).ps = P from HE.out]; simp only [List.append_assoc]; rfl)
  clear hc5 g5 HC4 HB4 H4 HN4
  rcases hba : c.ba with _ | ad
  · obtain ⟨z1, z2⟩ := HBN.out hba
    have HBS := hidden (nil_of_len (l4.trans z1))
    rw [hba, z1, z2] at k13
    go_wp2_with (at_builtin; refine Par.wpList_room_none rfl _ _ rfl w0.heap.size g cap (n + 4 * c.gl + 4 * c.nl + 4 * c.dl + P.length) _ rfl hn5 HC5.out rfl ?_)
    go_wp2
    go_ret
    exact ⟨by rw [HE.out, z1]; rfl, by rw [HLB.out, HBS.out, List.append_nil]; exact HC5.out, HB5.out⟩
  · rw [hba] at k13 HBR
    go_wp2_with (at_builtin; refine Par.wpList_room rfl _ _ rfl w0.heap.size g cap (n + 4 * c.gl + 4 * c.nl + 4 * c.dl + P.length) _ rfl hn5 HC5.out ad c.bl c.bc c.bs rfl l4 HBR.out.news (by omega) ?_)
    intro w6 hc6 g6
    have HB6 := hidden (HB5.out.grown g6 HB5.out.size (fun k hk => by cases hk; exact hg0))
    have HC6 := hidden hc6
    clear hc6 g6
    go_wp2
    go_ret
    exact ⟨by rw [HE.out]; rfl, by rw [HLB.out]; simpa only [List.append_assoc] using HC6.out, HB6.out⟩
/-- the numbers of a value, as bytes -/
def num (v : Ch) : List Int :=
  if v.kind = 0 then fours [v.tsn] ++ twos [v.stream, v.ssn] ++ fours [v.proto]
  else if v.kind = 1 ∨ v.kind = 2 then fours [v.tag, v.win] ++ twos [v.out, v.inn] ++ fours [v.tsn]
  else if v.kind = 3 then fours [v.tsn, v.win] ++ twos [(v.gs.length : Int), (v.ds.length : Int)]
  else if v.kind = 16 then fours [v.tsn, v.win] ++ twos [(v.gs.length : Int), (v.ns.length : Int), (v.ds.length : Int), 0]
  else if v.kind = 7 then fours [v.tsn] else []
theorem num_val (c : Ck) (h1 : c.gs.length = c.gl) (h2 : c.ns.length = c.nl) (h3 : c.ds.length = c.dl) : numB c = num (val c) := by
  unfold numB num
  rw [← h1, ← h2, ← h3]
  rfl
theorem num_len (v : Ch) : (num v).length = nb v.kind := by
  unfold num nb
  by_cases h0 : v.kind = 0
  · simp [h0, fours_len, twos_len]
  · by_cases h1 : v.kind = 1
    · simp [h1, fours_len, twos_len]
    · by_cases h2 : v.kind = 2
      · simp [h2, fours_len, twos_len]
      · by_cases h3 : v.kind = 3
        · simp [h3, fours_len, twos_len]
        · by_cases h16 : v.kind = 16
          · simp [h16, fours_len, twos_len]
          · by_cases h7 : v.kind = 7
            · simp [h7, fours_len]
            · simp [h0, h1, h2, h3, h16, h7]
/-- a value's bytes -/
def vby (v : Ch) : List Int := num v ++ lisB v
theorem vby_len (v : Ch) (h : pcode v.ps = 0) : (vby v).length = vlen v := by
  unfold vby lisB vlen psz
  rw [if_pos h]
  simp only [List.length_append, num_len, gbytes_len, fours_len]
  omega
/-- a chunk's bytes -/
def encC (v : Ch) : List Int := [v.kind, v.flags] ++ twos [4 + (vlen v : Int)] ++ vby v ++ List.replicate (clen v - (4 + vlen v)) 0
theorem encC_len (v : Ch) (h : pcode v.ps = 0) : (encC v).length = clen v := by
  have := Par.fill4_le (4 + vlen v)
  unfold encC
  simp only [List.length_append, twos_len, vby_len v h, List.length_replicate, List.length_cons, List.length_nil]
  unfold clen
  omega
end Go.Proofs.YtmnndkhdekpecaaGreatDoor.Chu
namespace Go.Proofs.YtmnndkhdekpecaaGreatDoor.Chu
open Go.ChangeShapes Go.WideShapes Go.ChangeAt Go.RowKit
open Par (hidden Bytes Row Prm Prms cell_lt Cap cells_new)
set_option linter.unusedVariables false
attribute [local go_sem ↓] execOp_ld execOp_bx execOp_st
attribute [local go_sem] run_box cc_0 cc_1 cc_2 cc_3 cc_4 cc_5 cc_6 cc_7 cc_8 cc_9 cc_10 cc_11 cc_12 cc_13 cc_14

set_option maxHeartbeats 1000000 in
theorem appendChunk (base : Nat) (w0 w : World) (g cap n : Nat) (zs : List Int) (c : Ck) (hc : Chk base w0 c) (hb : Below w0.heap.size w0 w) (hC : Cap w w0.heap.size g cap zs) (hn : zs.length = n) (hok : chk (val c) = 0) (hroom : n + clen (val c) ≤ cap) :
    Calls Tryz.prog 50 #[.slice (some ⟨g, 0, none⟩) n cap, cv c] w fun e w' => e = .returned (.slice (some ⟨g, 0, none⟩) (n + clen (val c)) cap) ∧ Cap w' w0.heap.size g cap (zs ++ encC (val c)) ∧ Below w0.heap.size w0 w' := by
  have hcl : cap ≤ 140737488355328 := by obtain ⟨_, _, _, _, _, h, _⟩ := hC; exact h
  have hg0 : w0.heap.size ≤ g := by obtain ⟨_, _, h, _⟩ := hC; exact h
  have hgw := cap_lt hC
  obtain ⟨hpast, hm, hpc, hvl⟩ := chk_ok hok
  obtain ⟨y0, y1⟩ := hc.1.1
  obtain ⟨y2, y3⟩ := hc.1.2.1
  have l1 : c.gs.length = c.gl := hc.2.1.1
  have l2 : c.ns.length = c.nl := hc.2.2.1.1
  have l3 : c.ds.length = c.dl := hc.2.2.2.1.1
  have l4 : c.bs.length = c.bl := hc.2.2.2.2.1.1
  have m1 : c.gl ≤ 4096 := by rw [← l1]; exact Nat.not_lt.1 fun h => hm (.inl h)
  have m2 : c.nl ≤ 4096 := by rw [← l2]; exact Nat.not_lt.1 fun h => hm (.inr (.inl h))
  have m3 : c.dl ≤ 4096 := by rw [← l3]; exact Nat.not_lt.1 fun h => hm (.inr (.inr h))
  have hfl := Par.fill4_le (4 + vlen (val c))
  have hcln : clen (val c) = Par.fill4 (4 + vlen (val c)) := rfl
  have HV := hidden (show vlen (val c) = nb c.kind + 4 * c.gl + 4 * c.nl + 4 * c.dl + (Par.enc (c.ps.map Par.val)).length + c.bl by
    have := vby_len (val c) hpc
    unfold vlen psz
    rw [if_pos hpc, show (val c).gs.length = c.gl from l1, show (val c).ns.length = c.nl from l2, show (val c).ds.length = c.dl from l3, show (val c).bs.length = c.bl from l4]
    show nb c.kind + 4 * (c.gl + c.nl + c.dl) + (Par.enc (c.ps.map Par.val)).length + c.bl = _
    omega)
  have HNV := hidden (num_val c l1 l2 l3)
  have hbB := hb.alloc hb.size (.cells (cc c) 59)
  have HB0 := hidden hbB
  have HC0 := hidden (cap_alloc hC (.cells (cc c) 59))
  have H0 := hidden (Bx.new w c)
  have HNE := hidden (show w.heap.size ≠ g by omega)
  have HCK := hidden hc
  have HPC := hidden (show pcode (c.ps.map Par.val) = 0 from hpc)
  have HEN := hidden (show encC (val c) = [c.kind, c.flags] ++ twos [4 + (vlen (val c) : Int)] ++ (num (val c) ++ lisB (val c)) ++ List.replicate (clen (val c) - (4 + vlen (val c))) 0 from rfl)
  have VB := hidden (valueBytes base c _ (hc.later hbB))
  have hl0 := H0.out.ld
  clear hC hbB hb hc hok hpast hm hpc l1 l2 l3 l4
  generalize hCL : clen (val c) = CL at *
  generalize hVL : vlen (val c) = VL at *
  have HCL := hidden hCL
  have HVL := hidden hVL
  rw [← hcln] at hfl
  have HCN := hidden hcln
  clear hCL hVL hcln
  go_enter Tryz.func50, Tryz.ntmps50
  go_wp2_with fail
  refine Calls.mono VB.out ?_
  rintro e w1 ⟨rfl, b1⟩
  have HB1 := hidden (HB0.out.trans (b1.mono HB0.out.size))
  have HC1 := hidden (HC0.out.later b1)
  have H1 := hidden (H0.out.later b1)
  have k0 := H1.out.c0
  have k1 := H1.out.c1
  have hw1 : w.heap.size < w1.heap.size := H1.out.lt
  clear b1 VB HC0 HB0 hl0
  go_wp2_with (at_builtin; refine Par.wpList_room rfl _ _ rfl w0.heap.size g cap n zs rfl hn (cap_alloc HC1.out _) ⟨w1.heap.size, 0, none⟩ 2 2 [c.kind, c.flags] rfl rfl (cells_new w1 _ 5) (by omega) ?_)
  intro w2 hc2 g2
  have g2' := gr_trans (World.grownBy_alloc w1 _ _) g2
  have HB2 := hidden (HB1.out.grown g2' HB1.out.size (fun k hk => by cases hk; exact hg0))
  have HC2 := hidden hc2
  have H2 := hidden (H1.out.grown g2' HNE.out)
  have hn2 : (zs ++ [c.kind, c.flags]).length = n + 2 := by rw [List.length_append, hn]; rfl
  clear hc2 g2 g2' k0 k1 HC1 HB1 H1
  have hw16 : ∀ x : Int, IntKind.u16.wrap x = x % 65536 := fun _ => rfl
  have hu : (4 + (VL : Int)) % 65536 = 4 + (VL : Int) := by omega
  have T := hidden (newTwos (show Wr w2 w0.heap.size g cap w2 (zs ++ [c.kind, c.flags]) from ⟨HC2.out, World.grownBy.refl _ _⟩) hn2 [4 + (VL : Int)] 1 rfl (by intro x hx; simp only [List.mem_cons, List.not_mem_nil, or_false] at hx; subst hx; omega) (by omega))
  go_wp2_with fail
  refine Calls.mono T.out ?_
  rintro e w3 ⟨rfl, hW3⟩
  have HB3 := hidden (HB2.out.grown hW3.2 HB2.out.size (fun k hk => by cases hk; exact hg0))
  have HC3 := hidden hW3.1
  have H3 := hidden (H2.out.grown hW3.2 HNE.out)
  have hn3 : (zs ++ [c.kind, c.flags] ++ twos [4 + (VL : Int)]).length = n + 2 + 2 * 1 := by rw [List.length_append, hn2]; rfl
  have l3 := H3.out.ld
  clear hW3 T HC2 HB2 H2
  have AN := hidden (appendNumbers w3 w0.heap.size g cap (n + 2 + 2 * 1) _ c HC3.out hn3 HCK.out.1 m1 m2 m3 (by have := HV.out; omega))
  go_wp2_with fail
  refine Calls.mono AN.out ?_
  rintro e w4 ⟨rfl, hW4⟩
  have HB4 := hidden (HB3.out.grown hW4.2 HB3.out.size (fun k hk => by cases hk; exact hg0))
  have HC4 := hidden hW4.1
  have H4 := hidden (H3.out.grown hW4.2 HNE.out)
  have hn4 : (zs ++ [c.kind, c.flags] ++ twos [4 + (VL : Int)] ++ numB c).length = n + 2 + 2 * 1 + nb c.kind := by rw [List.length_append, hn3, HNV.out, num_len]; rfl
  have l4 := H4.out.ld
  clear hW4 AN HC3 HB3 H3 l3
  have AL := hidden (appendLists base w0 w4 g cap (n + 2 + 2 * 1 + nb c.kind) _ c HCK.out HB4.out HC4.out hn4 HPC.out (by have := HV.out; omega))
  go_wp2_with fail
  refine Calls.mono AL.out ?_
  rintro e w5 ⟨rfl, hc5, hb5⟩
  have HC5 := hidden hc5
  have HB5 := hidden hb5
  have hn5 : (zs ++ [c.kind, c.flags] ++ twos [4 + (VL : Int)] ++ numB c ++ lisB (val c)).length = n + (4 + VL) := by
    have h1 : (lisB (val c)).length + nb c.kind = VL := by
      have h2 := vby_len (val c) HPC.out
      unfold vby at h2
      rw [List.length_append, num_len] at h2
      have h3 := HVL.out
      have h4 : nb (val c).kind = nb c.kind := rfl
      omega
    rw [List.length_append, hn4]
    omega
  have hlen : n + 2 + 2 * 1 + nb c.kind + 4 * c.gl + 4 * c.nl + 4 * c.dl + (Par.enc (c.ps.map Par.val)).length + c.bl = n + (4 + VL) := by have := HV.out; omega
  rw [hlen]
  clear hlen hc5 hb5 AL HC4 HB4 H4 l4
  have F := hidden (filled (4 + VL) (by omega) w5)
  rw [← HCN.out, show ((4 + VL : Nat) : Int) = 4 + (VL : Int) by omega] at F
  go_wp2_with fail
  refine Calls.mono F.out ?_
  rintro e w6 ⟨rfl, rfl⟩
  obtain ⟨d, hd⟩ : ∃ d : Nat, CL = 4 + VL + d := ⟨CL - (4 + VL), by omega⟩
  have hdd : (CL : Int) - (4 + (VL : Int)) = (d : Int) := by omega
  have hd3 : d ≤ 3 := by omega
  have HD := hidden hd
  have HDD := hidden hdd
  clear F hd hdd
  go_wp2_with (at_builtin; refine Par.wpList_room_zeros rfl _ _ rfl w0.heap.size g cap (n + (4 + VL)) _ rfl hn5 HC5.out d ?c1 ?c2 ?c3 ?_)
  case c1 =>
    show Value.int IntKind.i64 ((CL : Int) - (4 + (VL : Int))) = _
    rw [HDD.out]
  case c2 => omega
  case c3 => have := HD.out; omega
  intro w7 hc7 g7
  have HB7 := hidden (HB5.out.grown g7 HB5.out.size (fun k hk => by cases hk; exact hg0))
  have HC7 := hidden hc7
  clear hc7 g7
  go_wp2
  go_ret
  refine ⟨congrArg (fun k => Ending.returned (.slice (some ⟨g, 0, none⟩) k cap)) (show n + (4 + VL) + d = n + CL by have := HD.out; omega), ?_, HB7.out⟩
  rw [HEN.out, ← HNV.out, show CL - (4 + VL) = d by have := HD.out; omega]
  simpa only [List.append_assoc, List.cons_append, List.nil_append] using HC7.out
/-- a new variable that a chunk is stored into -/
theorem newvar (w : World) (c : Ck) : ∃ W, (sto (.pointer (some ⟨w.heap.size, 0, none⟩)) (cv c)).run Tryz.prog (w.alloc (.cells #[.int .u8 0, .int .u8 0, .int .u32 0, .int .u16 0, .int .u16 0, .int .u32 0, .int .u32 0, .int .u32 0, .int .u16 0, .int .u16 0, .slice none 0 0, .slice none 0 0, .slice none 0 0, .slice none 0 0, .slice none 0 0] 59)) = .ok () W ∧ Bx W w.heap.size c ∧ Below w.heap.size w W := by
  have hz : Bx (w.alloc (.cells #[.int .u8 0, .int .u8 0, .int .u32 0, .int .u16 0, .int .u16 0, .int .u32 0, .int .u32 0, .int .u32 0, .int .u16 0, .int .u16 0, .slice none 0 0, .slice none 0 0, .slice none 0 0, .slice none 0 0, .slice none 0 0] 59)) w.heap.size (zck 0) := Bx.new w (zck 0)
  exact ⟨_, sto_run hz c, stoW_bx hz c, stoW_below c ((Below.refl _ w).alloc (Nat.le_refl _) _) (Nat.le_refl _)⟩
/-- a row of chunks as cells -/
def ccs (l : List Ck) : List Value := l.flatMap fun c => (cc c).toList
/-- a row of chunks can be read -/
def Cks (base : Nat) (w : World) (a : Option Addr) (n : Nat) (l : List Ck) : Prop := l.length = n ∧ n ≤ 1000000000000 ∧ (∀ c ∈ l, Chk base w c) ∧ Lies base w a (ccs l)
theorem Cks.later {base : Nat} {w w' : World} {a : Option Addr} {n : Nat} {l : List Ck} (h : Cks base w a n l) (hb : Below w.heap.size w w') : Cks base w' a n l := ⟨h.1, h.2.1, fun c hc => (h.2.2.1 c hc).later hb, h.2.2.2.later hb⟩
theorem Cks.set {base : Nat} {w : World} {a : Option Addr} {n : Nat} {l : List Ck} (h : Cks base w a n l) {x : Addr} (hx : x.block < base) (v : Value) : Cks base (w.setCell x v) a n l := ⟨h.1, h.2.1, fun c hc => (h.2.2.1 c hc).set hx v, h.2.2.2.set hx v⟩
theorem Cks.nil (base : Nat) (w : World) (a : Option Addr) : Cks base w a 0 [] := ⟨rfl, by decide, (fun c hc => by cases hc), .inl rfl⟩
theorem ccs_len (l : List Ck) : (ccs l).length = l.length * 15 := by
  induction l with
  | nil => rfl
  | cons x l ih =>
    have e : ccs (x :: l) = (cc x).toList ++ ccs l := rfl
    rw [e, List.length_append, ih, List.length_cons, show (cc x).toList.length = 15 from rfl]
    omega
theorem ccs_get (l : List Ck) (k : Nat) (c : Ck) (h : l[k]? = some c) (j : Nat) (u : Value) (hu : (cc c).toList[j]? = some u) : (ccs l)[k * 15 + j]? = some u := by
  induction l generalizing k with
  | nil => simp at h
  | cons x l ih =>
    have e : ccs (x :: l) = (cc x).toList ++ ccs l := rfl
    have hj : j < 15 := (List.getElem?_eq_some_iff.1 hu).1
    cases k with
    | zero =>
      simp only [List.getElem?_cons_zero, Option.some.injEq] at h
      subst h
      rw [e, Nat.zero_mul, Nat.zero_add, List.getElem?_append_left (by show j < 15; exact hj)]
      exact hu
    | succ k =>
      rw [e, List.getElem?_append_right (by show 15 ≤ _; omega), show (k + 1) * 15 + j - (cc x).toList.length = k * 15 + j by show (k + 1) * 15 + j - 15 = _; omega]
      exact ih k (by simpa using h)
theorem ld_mid {w : World} {b o : Nat} {c : Ck} (h : ∀ j u, (cc c).toList[j]? = some u → w.cell? ⟨b, o + j, none⟩ = some u) : (ld (.pointer (some ⟨b, o, none⟩))).run Tryz.prog w = .ok (cv c) w := by
  unfold ld cv
  have := run_loadAt_mid (P := Tryz.prog) w b o 59 (cc c).toList _ h Tryz.underlying59 rfl infoC
  simpa using this
theorem Cks.get {base : Nat} {w : World} {a : Option Addr} {n k : Nat} {l : List Ck} (h : Cks base w a n l) (hk : k < n) :
    ∃ b off c, a = some ⟨b, off, none⟩ ∧ l[k]? = some c ∧ (ld (.pointer (some ⟨b, off + k * 15, none⟩))).run Tryz.prog w = .ok (cv c) w ∧ Chk base w c := by
  obtain ⟨h1, h2, h3, h4⟩ := h
  have hkl : k < l.length := by omega
  rcases h4 with h0 | ⟨b, off, rfl, hbb, hc⟩
  · have := ccs_len l
    rw [h0] at this
    simp at this
    omega
  · refine ⟨b, off, l[k], rfl, List.getElem?_eq_getElem hkl, ld_mid (fun j u hu => ?_), h3 _ (List.getElem_mem hkl)⟩
    rw [Nat.add_assoc]
    exact hc _ _ (ccs_get l k _ (List.getElem?_eq_getElem hkl) j u hu)
/-- how many bytes chunks have together; these bytes -/
def tot (vs : List Ch) : Nat := (vs.map clen).sum
def encA (vs : List Ch) : List Int := vs.flatMap encC
/-- what Encode tells -/
def EncR (vs : List Ch) (e : Int) : Prop :=
  (∃ k v, vs[k]? = some v ∧ (∀ u ∈ vs.take k, chk u = 0) ∧ chk v ≠ 0 ∧ e = chk v) ∨ ((∀ u ∈ vs, chk u = 0) ∧ 65536 < tot vs ∧ e = 2) ∨ ((∀ u ∈ vs, chk u = 0) ∧ tot vs ≤ 65536 ∧ e = 0)
theorem tot_snoc {vs : List Ch} {k : Nat} {v : Ch} (h : vs[k]? = some v) : tot (vs.take (k + 1)) = tot (vs.take k) + clen v := by
  rw [List.take_add_one, h]; unfold tot; simp
theorem encA_snoc {vs : List Ch} {k : Nat} {v : Ch} (h : vs[k]? = some v) : encA (vs.take (k + 1)) = encA (vs.take k) ++ encC v := by
  rw [List.take_add_one, h]; unfold encA; rw [List.flatMap_append]; simp
theorem tot_take (vs : List Ch) (k : Nat) : tot (vs.take k) ≤ tot vs := by
  have : tot vs = tot (vs.take k) + tot (vs.drop k) := by
    unfold tot
    rw [← List.sum_append, ← List.map_append, List.take_append_drop]
  omega
theorem clen_le {v : Ch} (h : chk v = 0) : clen v ≤ 65536 := by
  obtain ⟨_, _, _, h3⟩ := chk_ok h
  have := Par.fill4_le (4 + vlen v)
  unfold clen Par.fill4
  omega
theorem tot_le {vs : List Ch} {k : Nat} (h : ∀ u ∈ vs.take k, chk u = 0) : tot (vs.take k) ≤ k * 65536 := by
  have : ∀ l : List Ch, (∀ u ∈ l, chk u = 0) → tot l ≤ l.length * 65536 := by
    intro l
    induction l with
    | nil => intro _; exact Nat.zero_le _
    | cons x l ih =>
      intro h
      have h1 := clen_le (h x (by simp))
      have h2 := ih (fun u hu => h u (by simp [hu]))
      have e : tot (x :: l) = clen x + tot l := by unfold tot; simp
      rw [e, List.length_cons]
      omega
  have h1 := this _ h
  have h2 : (vs.take k).length ≤ k := by rw [List.length_take]; omega
  calc _ ≤ _ := h1
    _ ≤ _ := Nat.mul_le_mul_right _ h2
theorem encA_len {vs : List Ch} (h : ∀ u ∈ vs, chk u = 0) : (encA vs).length = tot vs := by
  induction vs with
  | nil => rfl
  | cons x l ih =>
    have e : tot (x :: l) = clen x + tot l := by unfold tot; simp
    have e2 : encA (x :: l) = encC x ++ encA l := rfl
    rw [e, e2, List.length_append, ih (fun u hu => h u (by simp [hu])), encC_len x (chk_ok (h x (by simp))).2.2.1]
end Go.Proofs.YtmnndkhdekpecaaGreatDoor.Chu
namespace Go.Proofs.YtmnndkhdekpecaaGreatDoor.Chu
open Go.ChangeShapes Go.WideShapes Go.ChangeAt Go.RowKit
open Par (hidden Bytes Row Prm Prms cell_lt Cap cells_new)
set_option linter.unusedVariables false
attribute [local go_sem ↓] execOp_ld execOp_bx execOp_st
attribute [local go_sem] run_box cc_0 cc_1 cc_2 cc_3 cc_4 cc_5 cc_6 cc_7 cc_8 cc_9 cc_10 cc_11 cc_12 cc_13 cc_14

theorem map_at {l : List Ck} {k : Nat} {c : Ck} (h : l[k]? = some c) : (l.map val)[k]? = some (val c) := by simp [h]
theorem all_step {vs : List Ch} {k : Nat} {v : Ch} (h : ∀ u ∈ vs.take k, chk u = 0) (hv : vs[k]? = some v) (h0 : chk v = 0) : ∀ u ∈ vs.take (k + 1), chk u = 0 := by
  intro u hu
  rcases Par.mem_take_succ hv hu with h1 | h1
  · exact h u h1
  · subst h1; exact h0
set_option maxHeartbeats 1000000 in
set_option maxRecDepth 20000 in
theorem encode (base : Nat) (w : World) (a : Option Addr) (n cp : Nat) (l : List Ck) (hl : Cks base w a n l) :
    Calls Tryz.prog 25 #[.slice a n cp] w fun e w' => ∃ v c, e = .returned (.tuple #[v, .int .i64 c]) ∧ EncR (l.map val) c ∧ (c ≠ 0 → v = .slice none 0 0) ∧
      (c = 0 → ∃ g cap, v = .slice (some ⟨g, 0, none⟩) (tot (l.map val)) cap ∧ Cap w' w.heap.size g cap (encA (l.map val))) ∧ Below w.heap.size w w' := by
  have HL := hidden hl
  have hnl := hl.2.1
  have HLL := hidden (show (l.map val).length = n by rw [List.length_map]; exact hl.1)
  clear hl
  go_enter Tryz.func25, Tryz.ntmps25
  go_wp2_with fail
  go_loopw [4, 13] (fun t i wr => ∃ k : Nat, k ≤ n ∧ i = .int .i64 k ∧ t = .int .i64 (tot ((l.map val).take k) : Nat) ∧ (∀ u ∈ (l.map val).take k, chk u = 0) ∧ Below w.heap.size w wr) (fun _ i _ => n - (intOf i).toNat)
  case atStart => exact ⟨0, Nat.zero_le _, rfl, rfl, (fun u hu => by simp at hu), Below.refl _ _⟩
  case round =>
    obtain ⟨k, hk, rfl, rfl, hall, hbl⟩ := hrel
    have htl := tot_le hall
    have htl2 : tot ((l.map val).take k) ≤ 65536000000000000 := by
      calc _ ≤ _ := htl
        _ ≤ 1000000000000 * 65536 := Nat.mul_le_mul_right _ (by omega)
        _ = _ := by decide
    clear htl
    rcases Nat.lt_or_ge k n with hlt | hge
    · obtain ⟨b, off, c, rfl, hck, hld, hchk⟩ := (HL.out.later hbl).get hlt
      obtain ⟨W, hS, hbx, hbw⟩ := newvar wr c
      have HA := hidden hall
      have HV := hidden (map_at hck)
      have HB := hidden (hbl.trans (hbw.mono hbl.size))
      have HX := hidden hbx
      have HC := hidden (hchk.later hbw)
      have CK := hidden (check base c W HC.out)
      have l1 := hbx.ld
      have hT := tot_snoc HV.out
      have HT := hidden hT
      clear hck hall hbl hbx hbw hchk hT
      generalize tot ((l.map val).take k) = T at *
      go_wp2_with fail
      refine Calls.mono CK.out ?_
      rintro e w1 ⟨rfl, b1⟩
      have HB1 := hidden (HB.out.trans (b1.mono HB.out.size))
      have HX1 := hidden (HX.out.later b1)
      have HC1 := hidden (HC.out.later b1)
      clear b1 CK HB HX HC hS l1
      by_cases hz : chk (val c) = 0
      · have WB := hidden (wholeBytes base c w1 HC1.out)
        have l2 := HX1.out.ld
        have hcl := clen_le hz
        have HZ := hidden hz
        go_wp2_with fail
        refine Calls.mono WB.out ?_
        rintro e w2 ⟨rfl, b2⟩
        have HB2 := hidden (HB1.out.trans (b2.mono HB1.out.size))
        clear b2 WB l2 hz
        generalize clen (val c) = C at *
        go_wp2
        go_roundw
        case rel => exact ⟨k + 1, by omega, by go_num, by rw [HT.out]; go_num, all_step HA.out HV.out HZ.out, HB2.out⟩
        case measure => simp [intOf]; omega
      · have hz2 := bne_t hz
        have HZ := hidden hz
        have HR := hidden (show EncR (l.map val) (chk (val c)) from .inl ⟨k, _, HV.out, HA.out, hz, rfl⟩)
        generalize chk (val c) = E at *
        go_wp2
        go_ret2
        exact ⟨_, _, rfl, HR.out, (fun _ => rfl), (fun h => absurd h HZ.out), HB1.out⟩
    · obtain rfl : n = k := by omega
      rw [List.take_of_length_le (by rw [HLL.out]; omega)] at hall
      have HA := hidden hall
      have HB := hidden hbl
      have hT : tot ((l.map val).take n) = tot (l.map val) := by rw [List.take_of_length_le (by rw [HLL.out]; omega)]
      rw [hT] at htl2
      rw [hT]
      clear hall hbl hT
      by_cases hm : 65536 < tot (l.map val)
      · have HR := hidden (show EncR (l.map val) 2 from .inr (.inl ⟨HA.out, hm, rfl⟩))
        have hm2 : (65536 : Int) < (tot (l.map val) : Nat) := by omega
        go_wp2
        go_ret2
        exact ⟨_, _, rfl, HR.out, (fun _ => rfl), (fun h => by omega), HB.out⟩
      · have HR := hidden (show EncR (l.map val) 0 from .inr (.inr ⟨HA.out, by omega, rfl⟩))
        have HTK := hidden (tot_take (l.map val))
        have HEL := hidden (encA_len HA.out)
        have hm2 : ¬ (65536 : Int) < (tot (l.map val) : Nat) := by omega
        generalize hTT : tot (l.map val) = TT at *
        have HTT := hidden hTT
        clear hTT
        obtain ⟨mk, hmk, hmc, hmb⟩ := Par.make_any w.heap.size TT (by omega)
        have HMC := hidden (hmc wr HB.out.size)
        have HMB := hidden (HB.out.trans ((hmb wr).mono HB.out.size))
        have hg0 := HB.out.size
        clear hmc hmb
        go_wp2_with fail
        generalize mk wr = W1 at *
        generalize wr.heap.size = g at *
        clear hmk
        go_loopw [8, 33] (fun v i wx => ∃ k : Nat, k ≤ n ∧ i = .int .i64 k ∧ v = .slice (some ⟨g, 0, none⟩) (tot ((l.map val).take k)) TT ∧ Cap wx w.heap.size g TT (encA ((l.map val).take k)) ∧ Below w.heap.size w wx) (fun _ i _ => n - (intOf i).toNat)
        case atStart => exact ⟨0, Nat.zero_le _, rfl, rfl, HMC.out, HMB.out⟩
        case round =>
          obtain ⟨k, hk, rfl, rfl, hcap, hbl⟩ := hrel
          rcases Nat.lt_or_ge k n with hlt | hge
          · obtain ⟨b, off, c, rfl, hck, hld, hchk⟩ := (HL.out.later hbl).get hlt
            have hchk0 : Chk base w c := HL.out.2.2.1 c (List.mem_of_getElem? hck)
            obtain ⟨W, hS, hbx, hbw⟩ := newvar wr c
            have hv := map_at hck
            have hz := HA.out _ (List.mem_of_getElem? hv)
            have hsn := tot_snoc hv
            have hroom := HTK.out (k + 1)
            rw [hsn] at hroom
            have HN := hidden (encA_len (vs := (l.map val).take k) (fun u hu => HA.out u (List.mem_of_mem_take hu)))
            have HSN := hidden hsn
            have HES := hidden (encA_snoc hv)
            have AC := hidden (appendChunk base w W g TT (tot ((l.map val).take k)) (encA ((l.map val).take k)) c hchk0 (hbl.trans (hbw.mono hbl.size)) (hcap.later hbw) HN.out hz hroom)
            have l1 := hbx.ld
            clear hck hchk hbx hbw hcap hbl hv hz hsn hroom
            generalize tot ((l.map val).take k) = T at *
            go_wp2_with fail
            refine Calls.mono AC.out ?_
            rintro e w2 ⟨rfl, hc2, b2⟩
            have HC2 := hidden hc2
            have HB2 := hidden b2
            clear hc2 b2 AC l1 hS hld
            go_wp2
            go_roundw
            case rel => exact ⟨k + 1, by omega, by go_num, by rw [HSN.out], by rw [HES.out]; exact HC2.out, HB2.out⟩
            case measure => simp [intOf]; omega
          · obtain rfl : n = k := by omega
            rw [List.take_of_length_le (by rw [HLL.out]; omega)] at hcap
            have e : tot ((l.map val).take n) = TT := by rw [List.take_of_length_le (by rw [HLL.out]; omega)]; exact HTT.out
            rw [e]
            have HCP := hidden hcap
            have HBL := hidden hbl
            clear hcap e hbl
            go_wp2
            go_ret2
            exact ⟨_, _, rfl, HR.out, (fun h => absurd rfl h), (fun _ => ⟨g, TT, by rw [HTT.out]; rfl, HCP.out⟩), HBL.out⟩
end Go.Proofs.YtmnndkhdekpecaaGreatDoor.Chu
