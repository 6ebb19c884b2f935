/-
  Encode of package chunk.
  Conditions: the numbers lie within their kinds, the cells hold them.
-/
import Derived.Test.YtifdkpifambhaaaChI
namespace Go.Proofs.Ytifdkpifambhaaa.Chu
open Go.ChangeShapes Go.WideShapes Go.ChangeAt Go.RowKit
open Par (hidden Bytes Row Prm Prms cell_lt Cap cells_new)
set_option linter.unusedVariables false
attribute [local go_sem ↓] execOp_ld execOp_bx execOp_st
attribute [local go_sem] run_box cc_0 cc_1 cc_2 cc_3 cc_4 cc_5 cc_6 cc_7 cc_8 cc_9 cc_10 cc_11 cc_12 cc_13 cc_14

theorem map_at {l : List Ck} {k : Nat} {c : Ck} (h : l[k]? = some c) : (l.map val)[k]? = some (val c) := by simp [h]
theorem all_step {vs : List Ch} {k : Nat} {v : Ch} (h : ∀ u ∈ vs.take k, chk u = 0) (hv : vs[k]? = some v) (h0 : chk v = 0) : ∀ u ∈ vs.take (k + 1), chk u = 0 := by
  intro u hu
  rcases Par.mem_take_succ hv hu with h1 | h1
  · exact h u h1
  · subst h1; exact h0
set_option maxHeartbeats 1000000 in
set_option maxRecDepth 20000 in
theorem encode (base : Nat) (w : World) (a : Option Addr) (n cp : Nat) (l : List Ck) (hl : Cks base w a n l) :
    Calls Try.prog 9 #[.slice a n cp] w fun e w' => ∃ v c, e = .returned (.tuple #[v, .int .i64 c]) ∧ EncR (l.map val) c ∧ (c ≠ 0 → v = .slice none 0 0) ∧
      (c = 0 → ∃ g cap, v = .slice (some ⟨g, 0, none⟩) (tot (l.map val)) cap ∧ Cap w' w.heap.size g cap (encA (l.map val))) ∧ Below w.heap.size w w' := by
  have HL := hidden hl
  have hnl := hl.2.1
  have HLL := hidden (show (l.map val).length = n by rw [List.length_map]; exact hl.1)
  clear hl
  go_enter Try.func9, Try.ntmps9
  go_wp2_with fail
  go_loopw [4, 13] (fun t i wr => ∃ k : Nat, k ≤ n ∧ i = .int .i64 k ∧ t = .int .i64 (tot ((l.map val).take k) : Nat) ∧ (∀ u ∈ (l.map val).take k, chk u = 0) ∧ Below w.heap.size w wr) (fun _ i _ => n - (intOf i).toNat)
  case atStart => exact ⟨0, Nat.zero_le _, rfl, rfl, (fun u hu => by simp at hu), Below.refl _ _⟩
  case round =>
    obtain ⟨k, hk, rfl, rfl, hall, hbl⟩ := hrel
    have htl := tot_le hall
    have htl2 : tot ((l.map val).take k) ≤ 65536000000000000 := by
      calc _ ≤ _ := htl
        _ ≤ 1000000000000 * 65536 := Nat.mul_le_mul_right _ (by omega)
        _ = _ := by decide
    clear htl
    rcases Nat.lt_or_ge k n with hlt | hge
    · obtain ⟨b, off, c, rfl, hck, hld, hchk⟩ := (HL.out.later hbl).get hlt
      obtain ⟨W, hS, hbx, hbw⟩ := newvar wr c
      have HA := hidden hall
      have HV := hidden (map_at hck)
      have HB := hidden (hbl.trans (hbw.mono hbl.size))
      have HX := hidden hbx
      have HC := hidden (hchk.later hbw)
      have CK := hidden (check base c W HC.out)
      have l1 := hbx.ld
      have hT := tot_snoc HV.out
      have HT := hidden hT
      clear hck hall hbl hbx hbw hchk hT
      generalize tot ((l.map val).take k) = T at *
      go_wp2_with fail
      refine Calls.mono CK.out ?_
      rintro e w1 ⟨rfl, b1⟩
      have HB1 := hidden (HB.out.trans (b1.mono HB.out.size))
      have HX1 := hidden (HX.out.later b1)
      have HC1 := hidden (HC.out.later b1)
      clear b1 CK HB HX HC hS l1
      by_cases hz : chk (val c) = 0
      · have WB := hidden (wholeBytes base c w1 HC1.out)
        have l2 := HX1.out.ld
        have hcl := clen_le hz
        have HZ := hidden hz
        go_wp2_with fail
        refine Calls.mono WB.out ?_
        rintro e w2 ⟨rfl, b2⟩
        have HB2 := hidden (HB1.out.trans (b2.mono HB1.out.size))
        clear b2 WB l2 hz
        generalize clen (val c) = C at *
        go_wp2
        go_roundw
        case rel => exact ⟨k + 1, by omega, by go_num, by rw [HT.out]; go_num, all_step HA.out HV.out HZ.out, HB2.out⟩
        case measure => simp [intOf]; omega
      · have hz2 := bne_t hz
        have HZ := hidden hz
        have HR := hidden (show EncR (l.map val) (chk (val c)) from .inl ⟨k, _, HV.out, HA.out, hz, rfl⟩)
        generalize chk (val c) = E at *
        go_wp2
        go_ret2
        exact ⟨_, _, rfl, HR.out, (fun _ => rfl), (fun h => absurd h HZ.out), HB1.out⟩
    · obtain rfl : n = k := by omega
      rw [List.take_of_length_le (by rw [HLL.out]; omega)] at hall
      have HA := hidden hall
      have HB := hidden hbl
      have hT : tot ((l.map val).take n) = tot (l.map val) := by rw [List.take_of_length_le (by rw [HLL.out]; omega)]
      rw [hT] at htl2
      rw [hT]
      clear hall hbl hT
      by_cases hm : 65536 < tot (l.map val)
      · have HR := hidden (show EncR (l.map val) 2 from .inr (.inl ⟨HA.out, hm, rfl⟩))
        have hm2 : (65536 : Int) < (tot (l.map val) : Nat) := by omega
        go_wp2
        go_ret2
        exact ⟨_, _, rfl, HR.out, (fun _ => rfl), (fun h => by omega), HB.out⟩
      · have HR := hidden (show EncR (l.map val) 0 from .inr (.inr ⟨HA.out, by omega, rfl⟩))
        have HTK := hidden (tot_take (l.map val))
        have HEL := hidden (encA_len HA.out)
        have hm2 : ¬ (65536 : Int) < (tot (l.map val) : Nat) := by omega
        generalize hTT : tot (l.map val) = TT at *
        have HTT := hidden hTT
        clear hTT
        obtain ⟨mk, hmk, hmc, hmb⟩ := Par.make_any w.heap.size TT (by omega)
        have HMC := hidden (hmc wr HB.out.size)
        have HMB := hidden (HB.out.trans ((hmb wr).mono HB.out.size))
        have hg0 := HB.out.size
        clear hmc hmb
        go_wp2_with fail
        generalize mk wr = W1 at *
        generalize wr.heap.size = g at *
        clear hmk
        go_loopw [8, 33] (fun v i wx => ∃ k : Nat, k ≤ n ∧ i = .int .i64 k ∧ v = .slice (some ⟨g, 0, none⟩) (tot ((l.map val).take k)) TT ∧ Cap wx w.heap.size g TT (encA ((l.map val).take k)) ∧ Below w.heap.size w wx) (fun _ i _ => n - (intOf i).toNat)
        case atStart => exact ⟨0, Nat.zero_le _, rfl, rfl, HMC.out, HMB.out⟩
        case round =>
          obtain ⟨k, hk, rfl, rfl, hcap, hbl⟩ := hrel
          rcases Nat.lt_or_ge k n with hlt | hge
          · obtain ⟨b, off, c, rfl, hck, hld, hchk⟩ := (HL.out.later hbl).get hlt
            have hchk0 : Chk base w c := HL.out.2.2.1 c (List.mem_of_getElem? hck)
            obtain ⟨W, hS, hbx, hbw⟩ := newvar wr c
            have hv := map_at hck
            have hz := HA.out _ (List.mem_of_getElem? hv)
            have hsn := tot_snoc hv
            have hroom := HTK.out (k + 1)
            rw [hsn] at hroom
            have HN := hidden (encA_len (vs := (l.map val).take k) (fun u hu => HA.out u (List.mem_of_mem_take hu)))
            have HSN := hidden hsn
            have HES := hidden (encA_snoc hv)
            have AC := hidden (appendChunk base w W g TT (tot ((l.map val).take k)) (encA ((l.map val).take k)) c hchk0 (hbl.trans (hbw.mono hbl.size)) (hcap.later hbw) HN.out hz hroom)
            have l1 := hbx.ld
            clear hck hchk hbx hbw hcap hbl hv hz hsn hroom
            generalize tot ((l.map val).take k) = T at *
            go_wp2_with fail
            refine Calls.mono AC.out ?_
            rintro e w2 ⟨rfl, hc2, b2⟩
            have HC2 := hidden hc2
            have HB2 := hidden b2
            clear hc2 b2 AC l1 hS hld
            go_wp2
            go_roundw
            case rel => exact ⟨k + 1, by omega, by go_num, by rw [HSN.out], by rw [HES.out]; exact HC2.out, HB2.out⟩
            case measure => simp [intOf]; omega
          · obtain rfl : n = k := by omega
            rw [List.take_of_length_le (by rw [HLL.out]; omega)] at hcap
            have e : tot ((l.map val).take n) = TT := by rw [List.take_of_length_le (by rw [HLL.out]; omega)]; exact HTT.out
            rw [e]
            have HCP := hidden hcap
            have HBL := hidden hbl
            clear hcap e hbl
            go_wp2
            go_ret2
            exact ⟨_, _, rfl, HR.out, (fun h => absurd rfl h), (fun _ => ⟨g, TT, by rw [HTT.out]; rfl, HCP.out⟩), HBL.out⟩
end Go.Proofs.Ytifdkpifambhaaa.Chu
