/-
  What ChunkBack says of every list of chunks is true: chunks are read from their bytes. Conditions: the chunks and all that they hold lie in memory, as whatever is handed in does.
-/
import Derived.Test.YtifdkpifambhaaaRows
import Derived.WalkKit
import Derived.ProofKit
import Derived.OpenShut
import Derived.ShutString
import Derived.ChangeOld
import Derived.Below
import Derived.SizedLaws
import Derived.Deep.DeepHandedRow
import Derived.LaidLaws
import Derived.ChangeMaps5
import Derived.Test.YtifdkpifambhaaaChArgs
import Derived.Test.YtifdkpifambhaaaChAb
import Derived.Test.YtifdkpifambhaaaOrders4
import Derived.Test.YtifdkpifambhaaaChRb
namespace Go.Proofs.Ytifdkpifambhaaa.chunkBack
open Go.ChangeShapes Go.WideShapes Go.ChangeAt Go.RowKit
open Go.ChangeMaps (open_string shut_string)
set_option linter.unusedVariables false

theorem own : ownKnob Try.prog.godebug = none := by kernel_rfl
theorem laidOut : laidOutB Try.prog = true := by kernel_rfl

open Par (hidden)
attribute [local go_sem ↓] Chu.execOp_ld Chu.execOp_bx Chu.execOp_st Chu.execOp_bs
attribute [local go_sem] Chu.run_box Chu.run_bsl
theorem encR_ok {vs : List Chu.Ch} (h : Chu.EncR vs 0) : (∀ u ∈ vs, Chu.chk u = 0) ∧ Chu.tot vs ≤ 65536 := by
  rcases h with ⟨k, v, _, _, hne, he⟩ | ⟨_, _, he⟩ | ⟨h1, h2, _⟩
  · exact absurd he.symm hne
  · cases he
  · exact ⟨h1, h2⟩
section
variable {a : Act} {o : Oper} {w : World}
theorem e_size {u0 : Value} (x0 : Operand) (h0 : a.eval x0 = u0) (ho : o.op = .call { callee := .value (.func 14), args := #[x0], argTypes := #[37] }) : (execOp a.eval o).run Try.prog w = .ok (.enter 14 #[u0]) w := by
  unfold execOp
  rw [ho]
  go_simp
  exact by cases x0 <;> simpa [Act.eval] using h0
theorem e_rsame {u0 u1 : Value} (x0 x1 : Operand) (h0 : a.eval x0 = u0) (h1 : a.eval x1 = u1) (ho : o.op = .call { callee := .value (.func 18), args := #[x0, x1], argTypes := #[37, 37] }) : (execOp a.eval o).run Try.prog w = .ok (.enter 18 #[u0, u1]) w := by
  unfold execOp
  rw [ho]
  go_simp
  exact ⟨by cases x0 <;> simpa [Act.eval] using h0, by cases x1 <;> simpa [Act.eval] using h1⟩
theorem e_ldx {p : Value} {c : Chu.Ck} (x : Operand) (hu : a.eval x = p) (ho : o.op = .load 37 x) (hb : (Chu.ld p).run Try.prog w = .ok (Chu.cv c) w) : (execOp a.eval o).run Try.prog w = .ok (.value (Chu.cv c)) w := by
  obtain ⟨d, op, ty, ps, af, gd⟩ := o
  simp only at ho
  subst ho
  rw [Chu.execOp_ld, hu]
  exact Ord.run_v hb
theorem o_ne0 (x : Operand) (ho : o.op = .binOp .neq 24 x (.const (.int .i64 0)) 24) (hx : a.eval x = .int .i64 0) : (execOp a.eval o).run Try.prog w = .ok (.value (.bool false)) w := by
  unfold execOp
  rw [ho]
  simp only [hx]
  go_simp
theorem o_ne3 {p : Int} (x y : Operand) (ho : o.op = .binOp .neq 3 x y 3) (hx : a.eval x = .int .i64 p) (hy : a.eval y = .int .i64 p) : (execOp a.eval o).run Try.prog w = .ok (.value (.bool false)) w := by
  unfold execOp
  rw [ho]
  simp only [hx, hy]
  go_simp
theorem o_lt4 {p : Int} (x : Operand) (ho : o.op = .binOp .lss 3 x (.const (.int .i64 4)) 3) (hx : a.eval x = .int .i64 p) (hp : ¬ p < 4) : (execOp a.eval o).run Try.prog w = .ok (.value (.bool false)) w := by
  unfold execOp
  rw [ho]
  simp only [hx]
  go_simp
theorem o_pk (x y : Operand) (ho : o.op = .pick x (.const (.bool true)) y) (hx : a.eval x = .bool false) (hy : a.eval y = .bool false) : (execOp a.eval o).run Try.prog w = .ok (.value (.bool false)) w := by
  unfold execOp
  rw [ho]
  simp [hx, hy, asBool]
theorem o_not (x : Operand) (ho : o.op = .unOp .not 4 x) (hx : a.eval x = .bool true) : (execOp a.eval o).run Try.prog w = .ok (.value (.bool false)) w := by
  unfold execOp
  rw [ho]
  simp only [hx]
  go_simp
theorem o_ix {b off len cap k : Nat} (x y : Operand) (ho : o.op = .indexAddr 22 x y) (hx : a.eval x = .slice (some ⟨b, off, none⟩) len cap) (hy : a.eval y = .int .i64 (k : Int)) (hk : k < len) : (execOp a.eval o).run Try.prog w = .ok (.value (.pointer (some ⟨b, off + k * 15, none⟩))) w := by
  have i1 : (k : Int) < (len : Int) := by omega
  unfold execOp
  rw [ho]
  simp only [hx, hy]
  go_simp
end
set_option maxRecDepth 20000 in
set_option maxHeartbeats 2000000 in

theorem walk (a0 : Option Addr) (len0 cap0 : Nat) (z0 : List Chu.Ck) (w : World) (w0 : Chu.Cks 0 w a0 len0 z0) :
    Calls Try.prog 7 #[.slice a0 len0 cap0] w fun e w' => e = .returned (.bool true) ∧ Below w.heap.size w w' := by
  have EN := hidden (Chu.encode 0 w a0 len0 cap0 z0 w0)
  have hn0 := w0.1
  have hn1 := w0.2.1
  have HVO := hidden (show ∀ v ∈ z0.map Chu.val, Chu.VOk v from fun v hv => by
    obtain ⟨c, hc, rfl⟩ := List.mem_map.1 hv
    exact (w0.2.2.1 c hc).vok)
  have W0 := hidden w0
  clear w0
  go_enter Try.func7, Try.ntmps7
  go_wp2_with fail
  refine Calls.mono EN.out ?_
  rintro e w1 ⟨v, er, rfl, hE, hnil, h0, b1⟩
  have HE := hidden hE
  have HNIL := hidden hnil
  have H0 := hidden h0
  have B1 := hidden b1
  clear EN hE hnil h0 b1
  go_wp2_with fail
  refine Calls.mono (Chu.awake w1) ?_
  rintro e w2 ⟨rfl, b2⟩
  have B2 := hidden (B1.out.trans (b2.mono B1.out.size))
  have HB2 := hidden b2
  clear b2
  by_cases he : er = 0
  · subst he
    obtain ⟨hok, htot⟩ := encR_ok HE.out
    obtain ⟨g, cap, rfl, hcap⟩ := H0.out rfl
    have hlen := Chu.encA_len hok
    have hbyt := Chu.encA_bytes HVO.out hok
    have hrow := (hcap.row hbyt).mono (Nat.zero_le _)
    rw [hlen] at hrow
    have hrow2 := hrow.later HB2.out
    have hcl : Chu.tot (z0.map Chu.val) ≤ cap := by obtain ⟨_, _, _, _, h, _⟩ := hcap; rw [hlen] at h; exact h
    have hcm : cap ≤ 140737488355328 := by obtain ⟨_, _, _, _, _, h, _⟩ := hcap; exact h
    have AL := hidden (Chu.all 0 w2 (some ⟨g, 0, none⟩) _ cap _ hrow2 hcl (by omega))
    have HROW := hidden hrow2
    have HOK := hidden hok
    have HLEN := hidden hlen
    clear hok hlen hbyt hrow hrow2 hcap HE H0 HNIL
    generalize hT : Chu.tot (z0.map Chu.val) = T at *
    have HT := hidden hT
    clear hT
    go_wp2_with fail
    refine Calls.mono AL.out ?_
    rintro e w3 ⟨pa, n, pcap, l, p, e3, rfl, hck, hO, b3⟩
    have hO2 : Chu.AllOut (Chu.encA (z0.map Chu.val)) (z0.map Chu.val) 0 0 := .inl ⟨rfl, rfl, _, by
      have := Chu.rds_enc (z0.map Chu.val) [] HVO.out HOK.out
      rw [List.nil_append] at this
      exact this, Nat.le_refl _⟩
    obtain ⟨hlv, rfl, rfl⟩ := hO.one hO2
    have B3 := hidden (B2.out.trans (b3.mono B2.out.size))
    have HR3 := hidden (HROW.out.later b3)
    have SM := hidden (Chu.rAllSame 0 _ w3 a0 pa len0 n cap0 pcap z0 l (W0.out.later B3.out) hck)
    have HLV := hidden hlv
    clear hck hO hO2 b3 AL hlv
    go_wp2_with fail
    refine Calls.mono SM.out ?_
    rintro e w4 ⟨t, rfl, ht, b4⟩
    obtain rfl : t = true := ht.2 HLV.out.symm
    have B4 := hidden (B3.out.trans (b4.mono B3.out.size))
    have HR4 := hidden (HR3.out.later b4)
    clear ht b4 SM
    go_wp2_with fail
    go_loopw [8, 9] (fun i j wr => ∃ k : Nat, k ≤ len0 ∧ j = .int .i64 (k : Int) ∧ i = .int .i64 ((Chu.tot ((z0.map Chu.val).take k) : Nat) : Int) ∧ Below w4.heap.size w4 wr) (fun _ j _ => len0 - (intOf j).toNat)
    case atStart => exact ⟨0, Nat.zero_le _, rfl, rfl, Below.refl _ _⟩
    case round =>
      obtain ⟨k, hk, rfl, rfl, hbl⟩ := hrel
      rcases Nat.lt_or_ge k len0 with hlt | hge
      · obtain ⟨b, off, c, ea, hck, hld, hchk⟩ := ((W0.out.later B4.out).later hbl).get hlt
        subst ea
        have hvk : (z0.map Chu.val)[k]? = some (Chu.val c) := by rw [List.getElem?_map, hck]; rfl
        have hsn := Chu.tot_snoc hvk
        have hlt2 := Chu.tot_lt hvk
        have hp := Chu.clen_pos (Chu.val c)
        have hdr := Chu.encA_drop HOK.out hvk
        have hko := HOK.out _ (List.mem_of_getElem? hvk)
        have hvo := HVO.out _ (List.mem_of_getElem? hvk)
        rw [HT.out] at hlt2
        generalize Chu.tot ((z0.map Chu.val).take k) = q at *
        have hrw : Par.Row 0 wr (some ⟨g, 0 + q, none⟩) (T - q) (Chu.encC (Chu.val c) ++ Chu.encA ((z0.map Chu.val).drop (k + 1))) := by
          rw [← hdr]
          exact Chu.drop_row (HR4.out.later hbl) (by omega)
        rw [Nat.zero_add] at hrw
        have DE := hidden (Chu.decode 0 wr (some ⟨g, q, none⟩) (T - q) (cap - q) _ hrw (by omega) (fun h => by cases h))
        have HBK := hidden (Chu.back (Chu.val c) hvo hko (Chu.encA ((z0.map Chu.val).drop (k + 1))))
        have HCK := hidden hchk
        have HBL := hidden hbl
        have HSN := hidden hsn
        have HKO := hidden hko
        have HCKK := hidden hck
        have i2 : (q : Int) ≤ (cap : Int) := by omega
        have i3 : ¬ cap = q := by omega
        have i5 : (q : Int) ≤ (T : Int) := by omega
        clear hchk hbl hsn hdr hrw hvk hko hvo hck hld
        go_wp2_with fail
        refine Calls.mono DE.out ?_
        rintro e w5 ⟨d, m, e5, rfl, ⟨y, hD, hv⟩, _, hC, b5⟩
        obtain ⟨ee, hym⟩ := HBK.out.one hD
        subst ee
        obtain ⟨rfl, rfl⟩ := hym rfl
        obtain ⟨W, hS, hbx, hbw⟩ := Chu.newvar w5 d
        have b6 := b5.trans (hbw.mono b5.size)
        have HB6 := hidden (HBL.out.trans (b6.mono HBL.out.size))
        have HC6 := hidden (hC.later hbw)
        have HV := hidden (hv rfl)
        have HX := hidden hbx
        have HKD := hidden (show ∀ x, Below W.heap.size W x → ((Chu.ld (.pointer (some ⟨w5.heap.size, 0, none⟩))).run Try.prog x = .ok (Chu.cv d) x ∧ (Chu.ld (.pointer (some ⟨b, off + k * 15, none⟩))).run Try.prog x = .ok (Chu.cv c) x ∧ Below W.heap.size W x) from fun x hx => by
          obtain ⟨b0, o0, c0, e0, hp0, h0, _⟩ := ((W0.out.later B4.out).later (HB6.out.trans (hx.mono HB6.out.size))).get hlt
          cases e0
          rw [HCKK.out] at hp0
          cases hp0
          exact ⟨(HX.out.later hx).ld, h0, hx⟩)
        have SZ := hidden (show ∀ x, Below W.heap.size W x → Calls Try.prog 14 #[Chu.cv c] x fun e w' => e = .returned (.int .i64 (Chu.clen (Chu.val c) : Nat)) ∧ Below W.heap.size W w' from fun x hx => (Chu.size_ 0 c x ((HCK.out.later b6).later hx)).mono (by
          rintro e w' ⟨rfl, hb⟩
          exact ⟨by rw [Chu.csize, if_pos HKO.out], hx.trans (hb.mono hx.size)⟩))
        have SA := hidden (show ∀ x, Below W.heap.size W x → Calls Try.prog 18 #[Chu.cv d, Chu.cv c] x fun e w' => e = .returned (.bool true) ∧ Below W.heap.size W w' from fun x hx => (Chu.rSame _ 0 x d c (HC6.out.later hx).2 ((HCK.out.later b6).later hx).2).mono (by
          rintro e w' ⟨t, rfl, ht, hb⟩
          exact ⟨by rw [ht.2 HV.out], hx.trans (hb.mono hx.size)⟩))
        have HW0 := hidden (show Below W.heap.size W W.drew from Par.below_drewN (Below.refl _ _) 1)
        generalize Chu.clen (Chu.val c) = M at *
        have i6 : ¬ (M : Int) < 4 := by omega
        have hs6 := b6.size
        clear DE hD hv hC b5 b6 hbx hbw hym HBK
        go_wp2_with fail
        refine Ord.wp_region_det (by kernel_rfl) 84 [(some 53, .int .i64 0), (some 54, .bool false), (some 55, .bool false), (some 56, .int .i64 (M : Int)), (some 57, .slice (some ⟨b, off, none⟩) len0 cap0), (some 58, .int .i64 (k : Int)), (some 59, .pointer (some ⟨b, off + k * 15, none⟩)), (some 60, Chu.cv c), (some 61, .int .i64 (M : Int)), (some 62, .bool false), (some 63, .bool false), (some 64, .bool false), (some 65, .int .i64 (M : Int)), (some 66, .bool false), (some 67, .bool false), (some 68, .bool false), (some 69, Chu.cv d), (some 70, .slice (some ⟨b, off, none⟩) len0 cap0), (some 71, .int .i64 (k : Int)), (some 72, .pointer (some ⟨b, off + k * 15, none⟩)), (some 73, Chu.cv c), (some 74, .bool true), (some 75, .bool false), (some 76, .bool false)] rfl (by kernel_rfl) (by rfl) (by kernel_rfl) (fun _ x => Below W.heap.size W x) (fun _ _ _ _ h => h) ?_ ?_ HW0.out
        case refine_1 =>
          intro L i o ac w' ho hi hcl hdep hF hW
          obtain ⟨f1, f2, f3, f4⟩ := hF
          have f1' : ac.tmps.size = 84 := f1
          match i, ho, hi with
          | 0, ho, hi =>
            cases ho
            have dk0 : ac.eval (.tmp 12) = .int .i64 0 := f3 12 rfl
            exact Ord.det_value rfl rfl (Chu.o_mv _ rfl dk0) rfl (hW)
          | 1, ho, hi =>
            cases ho
            have da0 : ac.eval (.tmp 53) = .int .i64 0 := f4 0 53 _ rfl (hdep ⟨0, .data⟩ (by simp) rfl)
            exact Ord.det_value rfl rfl (o_ne0 _ rfl da0) rfl (hW)
          | 2, ho, hi =>
            cases ho
            have da0 : ac.eval (.tmp 54) = .bool false := f4 1 54 _ rfl (hdep ⟨1, .data⟩ (by simp) rfl)
            exact Ord.det_value rfl rfl (Chu.o_mv _ rfl da0) rfl (hW)
          | 3, ho, hi =>
            cases ho
            have dg : ac.eval (.tmp 55) = .bool false := f4 2 55 _ rfl (hdep ⟨2, .guard⟩ (by simp) rfl)
            have dk0 : ac.eval (.tmp 11) = .int .i64 (M : Int) := f3 11 rfl
            exact Ord.det_value rfl (Ord.wanted_of dg (by rw [f1']; decide) rfl rfl) (Chu.o_mv _ rfl dk0) rfl (hW)
          | 4, ho, hi =>
            cases ho
            have dg : ac.eval (.tmp 55) = .bool false := f4 2 55 _ rfl (hdep ⟨2, .guard⟩ (by simp) rfl)
            have dk0 : ac.eval (.tmp 0) = .slice (some ⟨b, off, none⟩) len0 cap0 := f3 0 rfl
            exact Ord.det_value rfl (Ord.wanted_of dg (by rw [f1']; decide) rfl rfl) (Chu.o_mv _ rfl dk0) rfl (hW)
          | 5, ho, hi =>
            cases ho
            have dg : ac.eval (.tmp 55) = .bool false := f4 2 55 _ rfl (hdep ⟨2, .guard⟩ (by simp) rfl)
            have dk0 : ac.eval (.tmp 9) = .int .i64 (k : Int) := f3 9 rfl
            exact Ord.det_value rfl (Ord.wanted_of dg (by rw [f1']; decide) rfl rfl) (Chu.o_mv _ rfl dk0) rfl (hW)
          | 6, ho, hi =>
            cases ho
            have dg : ac.eval (.tmp 55) = .bool false := f4 2 55 _ rfl (hdep ⟨2, .guard⟩ (by simp) rfl)
            have da0 : ac.eval (.tmp 57) = .slice (some ⟨b, off, none⟩) len0 cap0 := f4 4 57 _ rfl (hdep ⟨4, .data⟩ (by simp) rfl)
            have da1 : ac.eval (.tmp 58) = .int .i64 (k : Int) := f4 5 58 _ rfl (hdep ⟨5, .data⟩ (by simp) rfl)
            exact Ord.det_value rfl (Ord.wanted_of dg (by rw [f1']; decide) rfl rfl) (o_ix _ _ rfl da0 da1 hlt) rfl (hW)
          | 7, ho, hi =>
            cases ho
            have dg : ac.eval (.tmp 55) = .bool false := f4 2 55 _ rfl (hdep ⟨2, .guard⟩ (by simp) rfl)
            have da0 : ac.eval (.tmp 59) = .pointer (some ⟨b, off + k * 15, none⟩) := f4 6 59 _ rfl (hdep ⟨6, .data⟩ (by simp) rfl)
            exact Ord.det_value rfl (Ord.wanted_of dg (by rw [f1']; decide) rfl rfl) (e_ldx _ da0 rfl (HKD.out _ hW).2.1) rfl hW
          | 8, ho, hi =>
            cases ho
            have dg : ac.eval (.tmp 55) = .bool false := f4 2 55 _ rfl (hdep ⟨2, .guard⟩ (by simp) rfl)
            have da0 : ac.eval (.tmp 60) = Chu.cv c := f4 7 60 _ rfl (hdep ⟨7, .data⟩ (by simp) rfl)
            exact Ord.det_call rfl (Ord.wanted_of dg (by rw [f1']; decide) rfl rfl) (e_size _ da0 rfl) ((SZ.out _ hW).mono (by rintro e w6 ⟨rfl, B6⟩; exact ⟨rfl, B6⟩))
          | 9, ho, hi =>
            cases ho
            have dg : ac.eval (.tmp 55) = .bool false := f4 2 55 _ rfl (hdep ⟨2, .guard⟩ (by simp) rfl)
            have da0 : ac.eval (.tmp 56) = .int .i64 (M : Int) := f4 3 56 _ rfl (hdep ⟨3, .data⟩ (by simp) rfl)
            have da1 : ac.eval (.tmp 61) = .int .i64 (M : Int) := f4 8 61 _ rfl (hdep ⟨8, .data⟩ (by simp) rfl)
            exact Ord.det_value rfl (Ord.wanted_of dg (by rw [f1']; decide) rfl rfl) (o_ne3 _ _ rfl da0 da1) rfl (hW)
          | 10, ho, hi =>
            cases ho
            have da0 : ac.eval (.tmp 55) = .bool false := f4 2 55 _ rfl (hdep ⟨2, .data⟩ (by simp) rfl)
            have da1 : ac.eval (.tmp 62) = .bool false := f4 9 62 _ rfl (hdep ⟨9, .data⟩ (by simp) rfl)
            exact Ord.det_value rfl rfl (o_pk _ _ rfl da0 da1) rfl (hW)
          | 11, ho, hi =>
            cases ho
            have da0 : ac.eval (.tmp 63) = .bool false := f4 10 63 _ rfl (hdep ⟨10, .data⟩ (by simp) rfl)
            exact Ord.det_value rfl rfl (Chu.o_mv _ rfl da0) rfl (hW)
          | 12, ho, hi =>
            cases ho
            have dg : ac.eval (.tmp 64) = .bool false := f4 11 64 _ rfl (hdep ⟨11, .guard⟩ (by simp) rfl)
            have dk0 : ac.eval (.tmp 11) = .int .i64 (M : Int) := f3 11 rfl
            exact Ord.det_value rfl (Ord.wanted_of dg (by rw [f1']; decide) rfl rfl) (Chu.o_mv _ rfl dk0) rfl (hW)
          | 13, ho, hi =>
            cases ho
            have dg : ac.eval (.tmp 64) = .bool false := f4 11 64 _ rfl (hdep ⟨11, .guard⟩ (by simp) rfl)
            have da0 : ac.eval (.tmp 65) = .int .i64 (M : Int) := f4 12 65 _ rfl (hdep ⟨12, .data⟩ (by simp) rfl)
            exact Ord.det_value rfl (Ord.wanted_of dg (by rw [f1']; decide) rfl rfl) (o_lt4 _ rfl da0 (by omega)) rfl (hW)
          | 14, ho, hi =>
            cases ho
            have da0 : ac.eval (.tmp 64) = .bool false := f4 11 64 _ rfl (hdep ⟨11, .data⟩ (by simp) rfl)
            have da1 : ac.eval (.tmp 66) = .bool false := f4 13 66 _ rfl (hdep ⟨13, .data⟩ (by simp) rfl)
            exact Ord.det_value rfl rfl (o_pk _ _ rfl da0 da1) rfl (hW)
          | 15, ho, hi =>
            cases ho
            have da0 : ac.eval (.tmp 67) = .bool false := f4 14 67 _ rfl (hdep ⟨14, .data⟩ (by simp) rfl)
            exact Ord.det_value rfl rfl (Chu.o_mv _ rfl da0) rfl (hW)
          | 16, ho, hi =>
            cases ho
            have dg : ac.eval (.tmp 68) = .bool false := f4 15 68 _ rfl (hdep ⟨15, .guard⟩ (by simp) rfl)
            have dk0 : ac.eval (.tmp 10) = .pointer (some ⟨w5.heap.size, 0, none⟩) := f3 10 rfl
            exact Ord.det_value rfl (Ord.wanted_of dg (by rw [f1']; decide) rfl rfl) (e_ldx _ dk0 rfl (HKD.out _ hW).1) rfl hW
          | 17, ho, hi =>
            cases ho
            have dg : ac.eval (.tmp 68) = .bool false := f4 15 68 _ rfl (hdep ⟨15, .guard⟩ (by simp) rfl)
            have dk0 : ac.eval (.tmp 0) = .slice (some ⟨b, off, none⟩) len0 cap0 := f3 0 rfl
            exact Ord.det_value rfl (Ord.wanted_of dg (by rw [f1']; decide) rfl rfl) (Chu.o_mv _ rfl dk0) rfl (hW)
          | 18, ho, hi =>
            cases ho
            have dg : ac.eval (.tmp 68) = .bool false := f4 15 68 _ rfl (hdep ⟨15, .guard⟩ (by simp) rfl)
            have dk0 : ac.eval (.tmp 9) = .int .i64 (k : Int) := f3 9 rfl
            exact Ord.det_value rfl (Ord.wanted_of dg (by rw [f1']; decide) rfl rfl) (Chu.o_mv _ rfl dk0) rfl (hW)
          | 19, ho, hi =>
            cases ho
            have dg : ac.eval (.tmp 68) = .bool false := f4 15 68 _ rfl (hdep ⟨15, .guard⟩ (by simp) rfl)
            have da0 : ac.eval (.tmp 70) = .slice (some ⟨b, off, none⟩) len0 cap0 := f4 17 70 _ rfl (hdep ⟨17, .data⟩ (by simp) rfl)
            have da1 : ac.eval (.tmp 71) = .int .i64 (k : Int) := f4 18 71 _ rfl (hdep ⟨18, .data⟩ (by simp) rfl)
            exact Ord.det_value rfl (Ord.wanted_of dg (by rw [f1']; decide) rfl rfl) (o_ix _ _ rfl da0 da1 hlt) rfl (hW)
          | 20, ho, hi =>
            cases ho
            have dg : ac.eval (.tmp 68) = .bool false := f4 15 68 _ rfl (hdep ⟨15, .guard⟩ (by simp) rfl)
            have da0 : ac.eval (.tmp 72) = .pointer (some ⟨b, off + k * 15, none⟩) := f4 19 72 _ rfl (hdep ⟨19, .data⟩ (by simp) rfl)
            exact Ord.det_value rfl (Ord.wanted_of dg (by rw [f1']; decide) rfl rfl) (e_ldx _ da0 rfl (HKD.out _ hW).2.1) rfl hW
          | 21, ho, hi =>
            cases ho
            have dg : ac.eval (.tmp 68) = .bool false := f4 15 68 _ rfl (hdep ⟨15, .guard⟩ (by simp) rfl)
            have da0 : ac.eval (.tmp 69) = Chu.cv d := f4 16 69 _ rfl (hdep ⟨16, .data⟩ (by simp) rfl)
            have da1 : ac.eval (.tmp 73) = Chu.cv c := f4 20 73 _ rfl (hdep ⟨20, .data⟩ (by simp) rfl)
            exact Ord.det_call rfl (Ord.wanted_of dg (by rw [f1']; decide) rfl rfl) (e_rsame _ _ da0 da1 rfl) ((SA.out _ hW).mono (by rintro e w6 ⟨rfl, B6⟩; exact ⟨rfl, B6⟩))
          | 22, ho, hi =>
            cases ho
            have dg : ac.eval (.tmp 68) = .bool false := f4 15 68 _ rfl (hdep ⟨15, .guard⟩ (by simp) rfl)
            have da0 : ac.eval (.tmp 74) = .bool true := f4 21 74 _ rfl (hdep ⟨21, .data⟩ (by simp) rfl)
            exact Ord.det_value rfl (Ord.wanted_of dg (by rw [f1']; decide) rfl rfl) (o_not _ rfl da0) rfl (hW)
          | 23, ho, hi =>
            cases ho
            have da0 : ac.eval (.tmp 68) = .bool false := f4 15 68 _ rfl (hdep ⟨15, .data⟩ (by simp) rfl)
            have da1 : ac.eval (.tmp 75) = .bool false := f4 22 75 _ rfl (hdep ⟨22, .data⟩ (by simp) rfl)
            exact Ord.det_value rfl rfl (o_pk _ _ rfl da0 da1) rfl (hW)
        case refine_2 =>
          intro w' hW
          have HBF := hidden (HB6.out.trans (hW.mono HB6.out.size))
          clear HKD SZ SA HW0 hW HX HC6 HB6 HBL
          simp only [Ord.puts, Ord.prs, List.filterMap_cons, List.filterMap_nil, Option.map_some, List.foldl_cons, List.foldl_nil]
          go_simp
          go_wp2
          go_roundw
          case rel => exact ⟨k + 1, by omega, by go_num, by rw [HSN.out]; go_num, HBF.out⟩
          case measure => simp [intOf]; omega
      · obtain rfl : len0 = k := by omega
        have eT : Chu.tot ((z0.map Chu.val).take len0) = T := by rw [List.take_of_length_le (by rw [List.length_map]; omega), HT.out]
        rw [eT]
        have HB := hidden (B4.out.trans (hbl.mono B4.out.size))
        clear hbl eT
        go_wp2
        go_ret
        exact ⟨rfl, HB.out⟩
  · obtain rfl := HNIL.out he
    have hne := Chu.bne_t he
    clear he
    go_wp2
    go_ret
    exact ⟨rfl, B2.out⟩

set_option maxRecDepth 100000 in
theorem contract (H : Type) (enc : TypeId × Value → H) (W : World) (base : Nat) (args : Array Value) (ds gs : List (DataW H)) (before : List MemPlace)
    (hval : ∀ (j : Nat) t v, Try.f7.params[j]? = some t → args[j]? = some v → Value.okWide Try.prog W .any base t v)
    (hW : DataW.Whole enc Try.prog Try.f7.params.toList Rows.chunkBackSpec.vars false W args.toList ds gs before)
    (hsz0 : (DataW.weightsEach Try.prog (Try.f7.params.toList ++ Rows.chunkBackSpec.plain.varTypes Try.prog) (ds ++ gs)).all (· ≤ reachBytes) = true) :
    Calls Try.prog 7 args W fun e W' => ∃ v, e = .returned v ∧ Rows.chunkBackSpec.post enc Try.prog Try.f7 false true false false W args v W' := by
  have hW' := hW
  obtain ⟨p, q, hA0, hV, rfl, hfz, hnd⟩ := hW
  have hA : DataW.TrodAll enc Try.prog W 0 (fun _ => true) true Try.f7.params.toList args.toList ds p := hA0
  have hsz := hsz0
  rw [Try.params7] at hA hval hsz
  obtain ⟨v0, vs0, d0, ds0, p0, q0, hargs, rfl, rfl, h0, r0⟩ := trodAll_cons hA
  obtain ⟨rfl, rfl, rfl⟩ := trodAll_nil r0
  obtain rfl : args = #[v0] := by cases args; simp_all
  obtain ⟨rfl, rfl⟩ := trodVars_none hV
  obtain ⟨a0, len0, cap0, rfl⟩ := okWide_slice Try.underlying22 (hval 0 22 v0 rfl rfl)
  have k0 := h0
  have lt0 : ∀ x ∈ p0, x.block < W.heap.size := by obtain ⟨m, hm⟩ := k0; exact DataW.trod_lt m _ _ _ hm
  have sz0 : (d0.weights Try.prog 22).all (· ≤ reachBytes) = true := List.all_eq_true.2 fun m hm => List.all_eq_true.1 hsz m (DataW.weights_mem_each (j := 0) rfl rfl m hm)
  obtain ⟨z0, w0⟩ : ∃ l, Chu.Cks 0 W a0 len0 l := by
    obtain ⟨fuel, hf⟩ := h0
    exact Chu.chunks_arg hf sz0
  clear hA0 hsz0 hsz
  refine (walk a0 len0 cap0 z0 W w0).mono fun e W' ⟨he, bel⟩ => ?_
  subst he
  exact ⟨_, rfl, _, _, _, [], _, [], hW', trodAll_mk1 (shut_bool Try.underlying4 _), (trodAll_cons_mk (Below.trod laidOut (by kernel_rfl) (of_decide_eq_true (by kernel_rfl)) k0 bel lt0) trodAll_mk0), rfl, bel.frame _, fun h => by cases h⟩

noncomputable def laidWorld (os : Os) : World :=
  World.holding Try.prog os ⟨#[], #[], []⟩
set_option maxRecDepth 100000 in
theorem laid_met (os : Os) : laidMet Try.prog Rows.chunkBackRow.laid ((laidWorld os).forCall (fun _ _ => 0) ⟨#[], #[.slice none 0 0], []⟩).memory :=
  laidMet_of_run' 8 (by kernel_rfl) (by kernel_rfl)
set_option maxRecDepth 100000 in
theorem reads (os : Os) {H : Type} (enc : TypeId × Value → H) : ∃ places, DataW.whole enc Try.prog ((laidWorld os).forCall (fun _ _ => 0) ⟨#[], #[.slice none 0 0], []⟩).memory Try.f7.params.toList Rows.chunkBackSpec.vars false #[Value.slice none 0 0].toList 8 = some ([.nil], [], places) :=
  ⟨[], by kernel_rfl⟩

set_option maxRecDepth 100000 in
theorem lifted (os : Os) (started : os.Started) (H : Type) (enc : TypeId × Value → H) (F : Stop.Interp) :
    ReturnsInHanded {} Try.checked os 7 .any ((OpenSpec.ofChange Rows.chunkBackSpec).preRow enc Try.prog Try.f7 Rows.chunkBackRow.domain false Rows.chunkBackRow.laid) (((OpenSpec.ofChange Rows.chunkBackSpec).at F).post enc Try.prog Try.f7 false true false false) := by
  obtain ⟨places, hx⟩ := reads os enc
  refine returnsInHanded_of_row (C := Try.checked) (s := OpenSpec.ofChange Rows.chunkBackSpec) own started (by kernel_rfl) Try.func7
    (witness_row_at (enc := enc) (C := Try.checked) false (laidWorld os) #[.slice none 0 0] rfl (by kernel_rfl) (by kernel_rfl) (by kernel_rfl)
      (OpenSpec.preRow_of_cond 8 hx (by kernel_rfl) (fun k hk => by cases hk) (by kernel_rfl) (laid_met os))) ?_
  intro W base args ds gs before hval hW _ hcond hsz hL _ _
  exact contract H enc W base args ds gs before hval hW hsz

theorem said : Rows.ChunkBackSaid :=
  OpenClaim.holds_of_cond 7 Try.f7 rfl rfl rfl rfl rfl rfl rfl ⟨rfl, rfl, rfl, rfl, rfl⟩ rfl rfl rfl rfl rfl (by kernel_rfl) Try.func7 (by kernel_rfl)
    (of_decide_eq_true (by kernel_rfl)) (by unfold Func.isWrapper; first | (rw [if_pos (by decide +kernel)]; kernel_rfl) | (rw [if_neg (by decide +kernel)]; exact ⟨rfl, rfl⟩))
    (fun os started H enc _ F => by rw [OpenClaim.pre_eq_preRow]; exact lifted os started H enc F)

/-- THE STATEMENT -/
theorem proved : Rows.ChunkBackSaid := said
#print axioms proved
end Go.Proofs.Ytifdkpifambhaaa.chunkBack
