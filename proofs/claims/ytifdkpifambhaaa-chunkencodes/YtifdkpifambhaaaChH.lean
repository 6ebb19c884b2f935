/-
  Chunks' bytes, as package chunk makes them: lists, whole chunks, rows of chunks.
  Conditions: the numbers lie within their kinds, the cells hold them.
-/
import Derived.Test.YtifdkpifambhaaaChG
namespace Go.Proofs.Ytifdkpifambhaaa.Chu
open Go.ChangeShapes Go.WideShapes Go.ChangeAt Go.RowKit
open Par (hidden Bytes Row Prm Prms cell_lt Cap cells_new)
set_option linter.unusedVariables false
attribute [local go_sem ↓] execOp_ld execOp_bx execOp_st
attribute [local go_sem] run_box cc_0 cc_1 cc_2 cc_3 cc_4 cc_5 cc_6 cc_7 cc_8 cc_9 cc_10 cc_11 cc_12 cc_13 cc_14

theorem ln_of {base g : Nat} {w0 w : World} {a : Option Addr} {xs : List Value} (h : Lies base w0 a xs) (hb : Below w0.heap.size w0 w) (hg : w0.heap.size ≤ g) : Ln g w a xs := by
  rcases h with h0 | ⟨b, off, rfl, _, hc⟩
  · exact .inl h0
  · rcases xs with _ | ⟨x, xs⟩
    · exact .inl rfl
    · have hlt : b < w0.heap.size := cell_lt (hc 0 x rfl)
      exact .inr ⟨b, off, rfl, by omega, fun j u hj => (hb.cell (cell_lt (hc j u hj))).trans (hc j u hj)⟩
theorem ne_of {base g m : Nat} {w0 : World} {a : Option Addr} {gs : List (Int × Int)} (h : Gaps base w0 a m gs) (hg : w0.heap.size ≤ g) : 0 < m → ∀ b off, a = some ⟨b, off, none⟩ → b ≠ g := by
  intro hm b off e
  obtain ⟨b', off', s, e', e2, _, hc, _⟩ := h.get hm
  rw [e] at e2
  cases e2
  have := cell_lt hc
  simp only at this
  omega
/-- the value's bytes behind the numbers -/
def lisB (v : Ch) : List Int := gbytes v.gs ++ gbytes v.ns ++ fours v.ds ++ Par.enc v.ps ++ v.bs
set_option maxHeartbeats 1000000 in
theorem appendLists (base : Nat) (w0 w : World) (g cap n : Nat) (zs : List Int) (c : Ck) (hc : Chk base w0 c) (hb : Below w0.heap.size w0 w) (hC : Cap w w0.heap.size g cap zs) (hn : zs.length = n) (hp : pcode (c.ps.map Par.val) = 0)
    (hroom : n + 4 * c.gl + 4 * c.nl + 4 * c.dl + (Par.enc (c.ps.map Par.val)).length + c.bl ≤ cap) :
    Calls Try.prog 48 #[.slice (some ⟨g, 0, none⟩) n cap, cv c] w fun e w' => e = .returned (.slice (some ⟨g, 0, none⟩) (n + 4 * c.gl + 4 * c.nl + 4 * c.dl + (Par.enc (c.ps.map Par.val)).length + c.bl) cap) ∧ Cap w' w0.heap.size g cap (zs ++ lisB (val c)) ∧ Below w0.heap.size w0 w' := by
  have hcl : cap ≤ 140737488355328 := by obtain ⟨_, _, _, _, _, h, _⟩ := hC; exact h
  have hg0 : w0.heap.size ≤ g := by obtain ⟨_, _, h, _⟩ := hC; exact h
  have hgw := cap_lt hC
  obtain ⟨hnum, hg, hr, hd, hbd, hbn, hps⟩ := hc
  have hbB := hb.alloc hb.size (.cells (cc c) 37)
  have HB0 := hidden hbB
  have HC0 := hidden (cap_alloc hC (.cells (cc c) 37))
  have H0 := hidden (Bx.new w c)
  have HNE := hidden (show w.heap.size ≠ g by omega)
  have HG := hidden hg
  have HR := hidden hr
  have HD := hidden hd
  have HBD := hidden hbd
  have HBN := hidden hbn
  have HPS := hidden hps
  have l1 := hg.1
  have l2 := hr.1
  have l3 := hd.1
  have l4 := hbd.1
  have HPC := hidden hp
  have k10 := H0.out.c10
  clear hC hbB hg hr hd hbd hbn hps hb
  have A1 := hidden (appendGaps (w.alloc (.cells (cc c) 37)) w0.heap.size g cap n zs c.ga c.gl c.gc c.gs HC0.out hn ((HG.out.later HB0.out).mono (Nat.zero_le _)) (ne_of HG.out hg0) (by omega))
  go_enter Try.func48, Try.ntmps48
  go_wp2_with fail
  refine Calls.mono A1.out ?_
  rintro e w1 ⟨rfl, hc1, g1⟩
  have HC1 := hidden hc1
  have HB1 := hidden (HB0.out.grown g1 HB0.out.size (fun k hk => by cases hk; exact hg0))
  have H1 := hidden (H0.out.grown g1 HNE.out)
  have hn1 : (zs ++ gbytes c.gs).length = n + 4 * c.gl := by rw [List.length_append, gbytes_len, hn, l1]
  have k11 := H1.out.c11
  clear hc1 g1 A1 k10 HC0
  have A2 := hidden (appendGaps w1 w0.heap.size g cap (n + 4 * c.gl) _ c.na c.nl c.nc c.ns HC1.out hn1 ((HR.out.later HB1.out).mono (Nat.zero_le _)) (ne_of HR.out hg0) (by omega))
  go_wp2_with fail
  refine Calls.mono A2.out ?_
  rintro e w2 ⟨rfl, hc2, g2⟩
  have HC2 := hidden hc2
  have HB2 := hidden (HB1.out.grown g2 HB1.out.size (fun k hk => by cases hk; exact hg0))
  have H2 := hidden (H1.out.grown g2 HNE.out)
  have hn2 : (zs ++ gbytes c.gs ++ gbytes c.ns).length = n + 4 * c.gl + 4 * c.nl := by rw [List.length_append, gbytes_len, hn1, l2]
  have k12 := H2.out.c12
  clear hc2 g2 A2 k11 HC1 HB1 H1
  have A3 := hidden (appendFours w2 w0.heap.size g cap (n + 4 * c.gl + 4 * c.nl) _ c.da c.dl c.dc c.ds HC2.out hn2 (ln_of HD.out.2.2.2 HB2.out hg0) l3 HD.out.2.2.1 (by omega))
  go_wp2_with fail
  refine Calls.mono A3.out ?_
  rintro e w3 ⟨rfl, hc3, g3⟩
  have HC3 := hidden hc3
  have HB3 := hidden (HB2.out.grown g3 HB2.out.size (fun k hk => by cases hk; exact hg0))
  have H3 := hidden (H2.out.grown g3 HNE.out)
  have hn3 : (zs ++ gbytes c.gs ++ gbytes c.ns ++ fours c.ds).length = n + 4 * c.gl + 4 * c.nl + 4 * c.dl := by rw [List.length_append, fours_len, hn2, l3]
  have k14 := H3.out.c14
  clear hc3 g3 A3 k12 HC2 HB2 H2
  have E := hidden (Par.encode base w3 c.pa c.pl c.pc c.ps (HPS.out.later HB3.out))
  go_wp2_with fail
  refine Calls.mono E.out ?_
  rintro e w4 ⟨v, cd, rfl, hcd, _, h0, b4⟩
  obtain rfl : cd = 0 := (code_val HPS.out.2.2.1 hcd).trans HPC.out
  obtain ⟨g2, cap2, rfl, hcap2⟩ := h0 rfl
  have HC4 := hidden (HC3.out.later b4)
  have HB4 := hidden (HB3.out.trans (b4.mono HB3.out.size))
  have H4 := hidden (H3.out.later b4)
  have HN4 := hidden ((hcap2.row (Par.enc_bytes _ (Par.vals_bytes HPS.out.2.2.1))).news)
  clear hcd h0 b4 hcap2 E k14 HC3 HB3 H3
  generalize hE : Par.enc (c.ps.map Par.val) = P at *
  have HE := hidden hE
  clear hE
  go_wp2_with (at_builtin; refine Par.wpList_room rfl _ _ rfl w0.heap.size g cap (n + 4 * c.gl + 4 * c.nl + 4 * c.dl) (zs ++ gbytes c.gs ++ gbytes c.ns ++ fours c.ds) rfl hn3 HC4.out ⟨g2, 0, none⟩ P.length cap2 P rfl rfl HN4.out (by omega) ?_)
  intro w5 hc5 g5
  have HB5 := hidden (HB4.out.grown g5 HB4.out.size (fun k hk => by cases hk; exact hg0))
  have H5 := hidden (H4.out.grown g5 HNE.out)
  have hn5 : (zs ++ (gbytes c.gs ++ (gbytes c.ns ++ (fours c.ds ++ P)))).length = n + 4 * c.gl + 4 * c.nl + 4 * c.dl + P.length := by
    rw [show zs ++ (gbytes c.gs ++ (gbytes c.ns ++ (fours c.ds ++ P))) = zs ++ gbytes c.gs ++ gbytes c.ns ++ fours c.ds ++ P by simp only [List.append_assoc], List.length_append, hn3]
  have HC5 := hidden hc5
  have HBR := hidden (HBD.out.later HB5.out)
  have k13 := H5.out.c13
  have HLB := hidden (show zs ++ lisB (val c) = zs ++ (gbytes c.gs ++ (gbytes c.ns ++ (fours c.ds ++ P))) ++ c.bs by unfold lisB; rw [show Par.enc (val c).ps = P from HE.out]; simp only [List.append_assoc]; rfl)
  clear hc5 g5 HC4 HB4 H4 HN4
  rcases hba : c.ba with _ | ad
  · obtain ⟨z1, z2⟩ := HBN.out hba
    have HBS := hidden (nil_of_len (l4.trans z1))
    rw [hba, z1, z2] at k13
    go_wp2_with (at_builtin; refine Par.wpList_room_none rfl _ _ rfl w0.heap.size g cap (n + 4 * c.gl + 4 * c.nl + 4 * c.dl + P.length) _ rfl hn5 HC5.out rfl ?_)
    go_wp2
    go_ret
    exact ⟨by rw [HE.out, z1]; rfl, by rw [HLB.out, HBS.out, List.append_nil]; exact HC5.out, HB5.out⟩
  · rw [hba] at k13 HBR
    go_wp2_with (at_builtin; refine Par.wpList_room rfl _ _ rfl w0.heap.size g cap (n + 4 * c.gl + 4 * c.nl + 4 * c.dl + P.length) _ rfl hn5 HC5.out ad c.bl c.bc c.bs rfl l4 HBR.out.news (by omega) ?_)
    intro w6 hc6 g6
    have HB6 := hidden (HB5.out.grown g6 HB5.out.size (fun k hk => by cases hk; exact hg0))
    have HC6 := hidden hc6
    clear hc6 g6
    go_wp2
    go_ret
    exact ⟨by rw [HE.out]; rfl, by rw [HLB.out]; simpa only [List.append_assoc] using HC6.out, HB6.out⟩
/-- the numbers of a value, as bytes -/
def num (v : Ch) : List Int :=
  if v.kind = 0 then fours [v.tsn] ++ twos [v.stream, v.ssn] ++ fours [v.proto]
  else if v.kind = 1 ∨ v.kind = 2 then fours [v.tag, v.win] ++ twos [v.out, v.inn] ++ fours [v.tsn]
  else if v.kind = 3 then fours [v.tsn, v.win] ++ twos [(v.gs.length : Int), (v.ds.length : Int)]
  else if v.kind = 16 then fours [v.tsn, v.win] ++ twos [(v.gs.length : Int), (v.ns.length : Int), (v.ds.length : Int), 0]
  else if v.kind = 7 then fours [v.tsn] else []
theorem num_val (c : Ck) (h1 : c.gs.length = c.gl) (h2 : c.ns.length = c.nl) (h3 : c.ds.length = c.dl) : numB c = num (val c) := by
  unfold numB num
  rw [← h1, ← h2, ← h3]
  rfl
theorem num_len (v : Ch) : (num v).length = nb v.kind := by
  unfold num nb
  by_cases h0 : v.kind = 0
  · simp [h0, fours_len, twos_len]
  · by_cases h1 : v.kind = 1
    · simp [h1, fours_len, twos_len]
    · by_cases h2 : v.kind = 2
      · simp [h2, fours_len, twos_len]
      · by_cases h3 : v.kind = 3
        · simp [h3, fours_len, twos_len]
        · by_cases h16 : v.kind = 16
          · simp [h16, fours_len, twos_len]
          · by_cases h7 : v.kind = 7
            · simp [h7, fours_len]
            · simp [h0, h1, h2, h3, h16, h7]
/-- a value's bytes -/
def vby (v : Ch) : List Int := num v ++ lisB v
theorem vby_len (v : Ch) (h : pcode v.ps = 0) : (vby v).length = vlen v := by
  unfold vby lisB vlen psz
  rw [if_pos h]
  simp only [List.length_append, num_len, gbytes_len, fours_len]
  omega
/-- a chunk's bytes -/
def encC (v : Ch) : List Int := [v.kind, v.flags] ++ twos [4 + (vlen v : Int)] ++ vby v ++ List.replicate (clen v - (4 + vlen v)) 0
theorem encC_len (v : Ch) (h : pcode v.ps = 0) : (encC v).length = clen v := by
  have := Par.fill4_le (4 + vlen v)
  unfold encC
  simp only [List.length_append, twos_len, vby_len v h, List.length_replicate, List.length_cons, List.length_nil]
  unfold clen
  omega
end Go.Proofs.Ytifdkpifambhaaa.Chu
