/-
  A known packet is written and read.
  Conditions: the program's table holds its sixteen numbers.
-/
import Derived.Test.YtmnndkhdekpecaaGreatDoorPkB
import Derived.Test.YtmnndkhdekpecaaGreatDoorPkF
namespace Go.Proofs.YtmnndkhdekpecaaGreatDoor.Pkt
open Go.ChangeShapes Go.WideShapes Go.ChangeAt Go.RowKit
open Chu (Ch Ck Cks Chk val cv cc ld n2 n4 tot encA EncR)
open Par (hidden Bytes Row cell_lt)
set_option linter.unusedVariables false
set_option maxRecDepth 20000
attribute [local go_sem ↓] Chu.execOp_bs
attribute [local go_sem] Chu.run_bsl

/-- the known chunk -/
def ack : Ck := ⟨11, 0, 0, 0, 0, 0, 0, 0, 0, 0, none, 0, 0, [], none, 0, 0, [], none, 0, 0, [], none, 0, 0, [], none, 0, 0, []⟩
def ackv : Ch := ⟨11, 0, 0, 0, 0, 0, 0, 0, 0, 0, [], [], [], [], []⟩
theorem ack_val : val ack = ackv := rfl
theorem ack_chk (w : World) : Chk 0 w ack := ⟨by simp [Chu.Nums, ack], Chu.Gaps.nil _ _ _, Chu.Gaps.nil _ _ _, Chu.Fours.nil _ _ _, ⟨rfl, (fun n hn => by cases hn), Nat.zero_le _, .inl rfl⟩, (fun _ => ⟨rfl, rfl⟩), Par.Prms.nil _ _ _⟩
theorem ack_ok : Chu.chk ackv = 0 := Chu.chk_of ackv (by simp [Chu.FlagOk, ackv]) (by simp [Chu.FieldOk, ackv]) (by simp [ackv]) (by simp [ackv]) (by simp [ackv]) rfl (show Chu.vlen ackv ≤ 65531 by decide)
theorem ack_tot : tot [ackv] = 4 := by decide
theorem ack_enc : encA [ackv] = [11, 0, 0, 4] := by decide
theorem ack_pen : PEnc 1 2 [ackv] 0 := .inr (.inr (.inr (.inr (.inr ⟨⟨by decide, by decide⟩, by simp, fun h => by have := h.1; simp at this, .inr (.inr ⟨Chu.all_one ack_ok, by rw [ack_tot]; decide, rfl⟩), by rw [ack_tot]; decide, rfl⟩))))
theorem ack_vok : ∀ v ∈ [ackv], Chu.VOk v := Chu.all_one ((ack_chk default).vok)
/-- the byte behind the head -/
theorem pby_12 {f t g : Int} {vs : List Ch} : (pby f t g vs).getD 12 0 = (encA vs).getD 0 0 := by
  have h12 : 12 ≤ (pre f t g (encA vs)).length := by rw [pre_len]; omega
  have e : (pby f t g vs).drop 12 = encA vs := by
    unfold pby
    rw [put_drop h12]
    unfold pre
    rw [List.drop_append_of_le_length (by rw [hdz_len]; exact Nat.le_refl _), List.drop_of_length_le (by rw [hdz_len]; exact Nat.le_refl _), List.nil_append]
  rw [← e, List.getD_eq_getElem?_getD, List.getD_eq_getElem?_getD, List.getElem?_drop]
set_option maxHeartbeats 1000000 in
theorem alive (w : World) (ht : Crc.Tab w) : Calls Tryz.prog 13 #[] w fun e w' => e = .returned (.bool true) ∧ Below w.heap.size w w' := by
  have hbs : ∀ w : World, (Chu.bsl (.agg #[.int .u8 11, .int .u8 0, .int .u32 0, .int .u16 0, .int .u16 0, .int .u32 0, .int .u32 0, .int .u32 0, .int .u16 0, .int .u16 0, .slice none 0 0, .slice none 0 0, .slice none 0 0, .slice none 0 0, .slice none 0 0])).run Tryz.prog w = .ok (.slice (some ⟨w.heap.size, 0, none⟩) 1 1) (w.alloc (.cells #[.int .u8 11, .int .u8 0, .int .u32 0, .int .u16 0, .int .u16 0, .int .u32 0, .int .u32 0, .int .u32 0, .int .u16 0, .int .u16 0, .slice none 0 0, .slice none 0 0, .slice none 0 0, .slice none 0 0, .slice none 0 0] 59)) := fun w => Chu.run_bsl ack w
  have hb0 := below_new w (.cells (cc ack) 59)
  have EN := hidden (encode 0 (w.alloc (.cells (cc ack) 59)) ⟨1, 2, 3, some ⟨w.heap.size, 0, none⟩, 1, 1, [ack]⟩ ⟨by simp only; decide, by simp only; decide, by simp only; decide, Chu.cks_one (ack_chk w) (Nat.zero_le _)⟩ (ht.later hb0 ht.pos))
  have HB0 := hidden hb0
  have HT := hidden ht
  rw [show cc ack = #[.int .u8 11, .int .u8 0, .int .u32 0, .int .u16 0, .int .u16 0, .int .u32 0, .int .u32 0, .int .u32 0, .int .u16 0, .int .u16 0, .slice none 0 0, .slice none 0 0, .slice none 0 0, .slice none 0 0, .slice none 0 0] from rfl] at EN HB0
  rw [show pkv ⟨1, 2, 3, some ⟨w.heap.size, 0, none⟩, 1, 1, [ack]⟩ = .agg #[.int .u16 1, .int .u16 2, .int .u32 3, .slice (some ⟨w.heap.size, 0, none⟩) 1 1] from rfl] at EN
  clear hb0 ht
  go_enter Tryz.func13, Tryz.ntmps13
  go_wp2_with fail
  refine Calls.mono EN.out ?_
  rintro e w1 ⟨v, er, rfl, hE, _, hgood, b1⟩
  obtain rfl : er = 0 := PEnc.one (f := 1) (t := 2) (vs := [ackv]) hE ack_pen
  have hown := hgood rfl
  simp only [List.map_cons, List.map_nil, ack_val] at hown
  rw [ack_tot] at hown
  have hby : Par.Bytes (pby 1 2 3 [ackv]) := pby_bytes (by decide) (by decide) (by decide) ack_vok (Chu.all_one ack_ok)
  obtain ⟨a, cap, rfl, hrow, hlc, _, hnn⟩ := Par.row_own (zs := pby 1 2 3 [ackv]) hown hby (by decide)
  have HB1 := hidden (HB0.out.trans (b1.mono HB0.out.size))
  have DE := hidden (decode _ w1 a _ cap _ hrow hlc hnn (HT.out.later HB1.out HT.out.pos))
  have HROW := hidden hrow
  clear EN hE hgood hown b1 hnn
  go_wp2_with fail
  refine Calls.mono DE.out ?_
  rintro e w2 ⟨p, q, er, rfl, hok, hD, hnum, _, b2⟩
  obtain ⟨k1, k2, k3, k4⟩ := back (f := 1) (t := 2) (g := 3) (by decide) (by decide) (by decide) ack_vok ack_pen
  obtain ⟨hl, rfl, rfl⟩ := hD.one k1
  have hg3 : p.g = 3 := (hnum rfl).2.2.trans k4
  obtain ⟨c, hpl, hck⟩ : ∃ c, p.l = [c] ∧ val c = ackv := by
    cases hc : p.l with
    | nil => rw [hc] at hl; cases hl
    | cons c r =>
      rw [hc] at hl
      simp only [List.map_cons, List.cons.injEq, List.map_eq_nil_iff] at hl
      exact ⟨c, by rw [hl.2], hl.1⟩
  have hn1 : p.n = 1 := by rw [← hok.2.2.2.1, hpl]; rfl
  obtain ⟨b, off, c', hpa, hpc, hkd⟩ := kind_at hok.2.2.2 (k := 0) (by omega)
  rw [hpl] at hpc
  obtain rfl : c = c' := by simpa using hpc
  have hk11 : c.kind = 11 := by have := congrArg Ch.kind hck; exact this
  rw [hk11, Nat.zero_mul, Nat.add_zero] at hkd
  obtain ⟨B, OFF, hBa, hB12⟩ := Chu.row_cell (HROW.out.later b2) (Below.refl _ _) (j := 12) (by decide)
  rw [pby_12, ack_enc] at hB12
  have hB12' : w2.cell? ⟨B, OFF + 12, none⟩ = some (.int .u8 11) := hB12
  have hbn := below_new w2 (.cells (pkc p) 26)
  have hP := Pb.new w2 p
  obtain ⟨y0, y1, y2, y3⟩ := hP.px
  rw [hg3] at y2
  rw [hn1, hpa] at y3
  have q1 := (hbn.cell (cell_lt hkd)).trans hkd
  have q2 := (hbn.cell (cell_lt hB12')).trans hB12'
  have HBF := hidden (HB1.out.trans ((b2.trans (hbn.mono b2.size)).mono HB1.out.size))
  subst hBa
  rw [show pkv p = .agg #[.int .u16 p.f, .int .u16 p.t, .int .u32 p.g, .slice p.a p.n p.c] from rfl]
  rw [show pkc p = #[.int .u16 p.f, .int .u16 p.t, .int .u32 p.g, .slice p.a p.n p.c] from rfl] at q1 q2 HBF y2 y3
  have lt1 := cell_lt hkd
  have lt2 := cell_lt hB12'
  simp only at lt1 lt2
  rw [hn1, hpa, hg3] at q1 q2 HBF y2 y3 ⊢
  clear hok hD hnum k1 k2 k3 k4 hl hpl hck hn1 hpa hpc hkd hg3 hk11 hB12 hB12' hbn hP y0 y1 b2 DE HROW hrow hby hlc
  go_wp2
  go_ret
  exact ⟨rfl, HBF.out⟩
end Go.Proofs.YtmnndkhdekpecaaGreatDoor.Pkt
