/-
  The document's Head and Decode of a packet.
  Conditions: the numbers lie within their kinds, the cells hold them.
-/
import Derived.Test.YtmnndkhdekpecaaGreatDoorPkF
import Derived.Test.YtmnndkhdekpecaaGreatDoorCr
namespace Go.Proofs.YtmnndkhdekpecaaGreatDoor.Pkt
open Go.ChangeShapes Go.WideShapes Go.ChangeAt Go.RowKit
open Chu (Ch Ck Cks Chk val cv cc ld n2 n4 gx gr_set gr_trans gr_own gr_below AllOut)
open Par (hidden Bytes Row cell_lt cutA)
set_option linter.unusedVariables false
set_option maxRecDepth 20000

theorem Pb.tag {w : World} {x : Nat} {f t g g' : Int} {a : Option Addr} {n c : Nat} {l : List Ck} (h : Pb w x ⟨f, t, g, a, n, c, l⟩) : Pb (w.setCell ⟨x, 2, none⟩ (.int .u32 g')) x ⟨f, t, g', a, n, c, l⟩ := Chu.heap_set w x 2 _ h
theorem gx_succ (zs : List Int) (p i : Nat) : gx zs p (i + 1) = gx zs p i * 256 + zs.getD (p + i) 0 := rfl
theorem cell_of {base : Nat} {w : World} {b off len : Nat} {zs : List Int} (h : Row base w (some ⟨b, off, none⟩) len zs) {j : Nat} (hj : j < len) : w.cell? ⟨b, off + j, none⟩ = some (.int .u8 (zs.getD j 0)) := by
  obtain ⟨b', off', e, _, hc⟩ := h.2.2.2.resolve_left (by omega)
  cases e
  exact hc j hj
set_option maxHeartbeats 1000000 in
theorem rHead (base : Nat) (w : World) (a : Option Addr) (len cap : Nat) (zs : List Int) (hr : Row base w a len zs) (hlc : len ≤ cap) :
    Calls Tryz.prog 17 #[.slice a len cap] w fun e w' => e = .returned (.tuple #[pkv ⟨hfrom zs, hto zs, htag zs, none, 0, 0, []⟩, .int .i64 (hcode zs)]) ∧ Below w.heap.size w w' := by
  have hb0 := below_new w (.cells #[.int .u16 0, .int .u16 0, .int .u32 0, .slice none 0 0] 26)
  have HR := hidden hr
  have hl := hr.1
  have HB0 := hidden hb0
  have HP0 := hidden (show Pb (w.alloc (.cells #[.int .u16 0, .int .u16 0, .int .u32 0, .slice none 0 0] 26)) w.heap.size zpk from Pb.new w zpk)
  clear hr
  by_cases hlong : 65536 < len
  · have i1 : (65536 : Int) < (len : Int) := by omega
    have HC := hidden (hcode_long (zs := zs) (by omega))
    have HN := hidden (head_bad (zs := zs) (by rw [HC.out]; decide))
    go_enter Tryz.func17, Tryz.ntmps17
    go_wp2
    exact bodyPost_ret (cell_res2 Tryz.results17 HP0.out _ rfl rfl) rfl ⟨by rw [HC.out, HN.out.1, HN.out.2.1, HN.out.2.2]; rfl, HB0.out⟩
  have i1 : ¬ (65536 : Int) < (len : Int) := by omega
  by_cases hbrief : len < 12
  · have HC := hidden (hcode_brief (zs := zs) (by omega))
    have HN := hidden (head_bad (zs := zs) (by rw [HC.out]; decide))
    have CK := hidden (Crc.rcheck_brief a len cap (w.alloc (.cells #[.int .u16 0, .int .u16 0, .int .u32 0, .slice none 0 0] 26)) hbrief)
    go_enter Tryz.func17, Tryz.ntmps17
    go_wp2_with fail
    refine Calls.mono CK.out ?_
    rintro e w' ⟨rfl, rfl⟩
    go_wp2
    exact bodyPost_ret (cell_res2 Tryz.results17 HP0.out _ rfl rfl) rfl ⟨by rw [HC.out, HN.out.1, HN.out.2.1, HN.out.2.2]; rfl, HB0.out⟩
  obtain ⟨b, off, rfl⟩ : ∃ b off, a = some ⟨b, off, none⟩ := by
    rcases HR.out.2.2.2 with h | ⟨b, off, h, _⟩
    · omega
    · exact ⟨b, off, h⟩
  have CK := hidden (Crc.rcheck b off len cap zs (w.alloc (.cells #[.int .u16 0, .int .u16 0, .int .u32 0, .slice none 0 0] 26)) (crow (HR.out.later HB0.out)) (by omega) (by omega))
  by_cases hsum : Crc.putOf zs = zs
  · rw [Crc.code_ok hsum] at CK
    have HSUM := hidden hsum
    clear hsum
    go_enter Tryz.func17, Tryz.ntmps17
    go_wp2_with fail
    refine Calls.mono CK.out ?_
    rintro e w1 ⟨rfl, b1⟩
    have HB1 := hidden (HB0.out.trans (b1.mono HB0.out.size))
    have HP1 := hidden (HP0.out.later b1)
    have hR1 := HR.out.later HB1.out
    have d0 := cell_of hR1 (j := 0) (by omega)
    have d1 := cell_of hR1 (j := 1) (by omega)
    have d2 := cell_of hR1 (j := 2) (by omega)
    have d3 := cell_of hR1 (j := 3) (by omega)
    have x0 := Par.at_bound zs HR.out.2.1 0
    have x1 := Par.at_bound zs HR.out.2.1 1
    have x2 := Par.at_bound zs HR.out.2.1 2
    have x3 := Par.at_bound zs HR.out.2.1 3
    have E0 := hidden (show n2 zs 0 = zs.getD 0 0 * 256 + zs.getD 1 0 from rfl)
    have E2 := hidden (show n2 zs 2 = zs.getD 2 0 * 256 + zs.getD 3 0 from rfl)
    rw [Nat.add_zero] at d0
    have i2 : (3 : Int) < (len : Int) := by omega
    have ltb : b < w1.heap.size := cell_lt d0
    have l0 : 0 < len := by omega
    have l1 : 1 < len := by omega
    have l2 : 2 < len := by omega
    have l3 : 3 < len := by omega
    have hs1 := HP1.out.lt
    clear b1 CK HB0 HP0 hR1 hb0
    generalize zs.getD 0 0 = y0 at *
    generalize zs.getD 1 0 = y1 at *
    generalize zs.getD 2 0 = y2 at *
    generalize zs.getD 3 0 = y3 at *
    go_wp2_with fail
    go_region
    obtain ⟨F, hF⟩ : ∃ F, F = y0 * 256 + y1 := ⟨_, rfl⟩
    obtain ⟨G, hG⟩ : ∃ G, G = y2 * 256 + y3 := ⟨_, rfl⟩
    rw [← hF] at E0
    rw [← hG] at E2
    rw [← hF, ← hG]
    have hbn : Below w1.heap.size w1 (w1.alloc (.cells #[.int .u16 F, .int .u16 G, .int .u32 0, .slice none 0 0] 26)).drew := (below_new w1 _).drew
    have HBV := hidden (HB1.out.trans (hbn.mono HB1.out.size))
    have HPV := hidden (HP1.out.later hbn)
    have HQV := hidden (show Pb (w1.alloc (.cells #[.int .u16 F, .int .u16 G, .int .u32 0, .slice none 0 0] 26)).drew w1.heap.size ⟨F, G, gx zs 4 0, none, 0, 0, []⟩ from Pb.new w1 ⟨F, G, 0, none, 0, 0, []⟩)
    have hF2 : 0 ≤ F ∧ F < 65536 := by omega
    have hG2 : 0 ≤ G ∧ G < 65536 := by omega
    clear hbn d0 d1 d2 d3 x0 x1 x2 x3 hF hG l0 l1 l2 l3 HB1 HP1
    generalize hV : World.drew (World.alloc w1 _) = V at *
    clear hV
    go_wp2_with fail
    go_loopw [6] (fun i wr => ∃ k : Nat, k ≤ 4 ∧ i = .int .i64 ((4 + k : Nat) : Int) ∧ Pb wr w1.heap.size ⟨F, G, gx zs 4 k, none, 0, 0, []⟩ ∧ Pb wr w.heap.size zpk ∧ Below w.heap.size w wr) (fun i _ => 8 - (intOf i).toNat)
    case atStart => exact ⟨0, by omega, rfl, HQV.out, HPV.out, HBV.out⟩
    case round =>
      obtain ⟨k, hk, rfl, hq, hp, hbl⟩ := hrel
      have HQ := hidden hq
      have HP := hidden hp
      have HB := hidden hbl
      obtain ⟨q0, q1, q2, q3⟩ := hq.px
      rcases Nat.lt_or_ge k 4 with hlt | hge
      · have d := cell_of (HR.out.later hbl) (j := 4 + k) (by omega)
        have xb := Par.at_bound zs HR.out.2.1 (4 + k)
        have gb := Chu.gx_bound HR.out.2.1 4 k
        have gp := Chu.pow_le k hlt
        have HGS := hidden (gx_succ zs 4 k)
        have fr := hq.fr 2
        have l4 : 4 + k < len := by omega
        have i4 : ((4 + k : Nat) : Int) < 8 := by omega
        have gb2 : gx zs 4 k < 16777216 := by omega
        have gb1 := gb.1
        have eo : off + (4 + k) = off + (4 + k) := rfl
        clear hq hp hbl gb gp
        generalize zs.getD (4 + k) 0 = y at *
        generalize gx zs 4 k = gk at *
        have HN := hidden (show Pb (wr.setCell ⟨w1.heap.size, 2, none⟩ (.int .u32 (gk * 256 + y))).drew w1.heap.size ⟨F, G, gx zs 4 (k + 1), none, 0, 0, []⟩ from by rw [HGS.out]; exact HQ.out.tag)
        have HM := hidden (show Pb (wr.setCell ⟨w1.heap.size, 2, none⟩ (.int .u32 (gk * 256 + y))).drew w.heap.size zpk from HP.out.gr (Chu.gr_drew (gr_set wr w1.heap.size 2 (.int .u32 (gk * 256 + y)))) (by omega))
        have HBN := hidden (show Below w.heap.size w (wr.setCell ⟨w1.heap.size, 2, none⟩ (.int .u32 (gk * 256 + y))).drew from (HB.out.grown (gr_set wr w1.heap.size 2 (.int .u32 (gk * 256 + y))) HB.out.size (fun j hj => by cases hj; omega)).drew)
        go_wp2_with fail
        go_region
        go_wp2
        go_roundw
        case rel => exact ⟨k + 1, by omega, by go_num, HN.out, HM.out, HBN.out⟩
        case measure => simp [intOf]; omega
      · obtain rfl : k = 4 := by omega
        rw [Chu.gx4] at HQ q2
        obtain ⟨z0, z1, z2, z3⟩ := hp.px
        have k0 := hp.fr 0
        have k1 := hp.fr 1
        have k2 := hp.fr 2
        have k3 := hp.fr 3
        clear hq hp hbl
        by_cases hF : F = 0
        · have HC := hidden (hcode_port (zs := zs) (by omega) (by omega) HSUM.out (.inl (E0.out.trans hF)))
          have HN := hidden (head_bad (zs := zs) (by rw [HC.out]; decide))
          have HS := hidden (HP.out.set (p := zpk))
          have HBF := hidden (HB.out.grown (setW_gr wr w.heap.size zpk) HB.out.size (fun k hk => by cases hk; exact Nat.le_refl _))
          subst hF
          simp only [setW, zpk] at HS HBF
          go_wp2
          exact bodyPost_ret (cell_res2 Tryz.results17 HS.out _ rfl rfl) rfl ⟨by rw [HC.out, HN.out.1, HN.out.2.1, HN.out.2.2]; rfl, HBF.out⟩
        · by_cases hG : G = 0
          · have HC := hidden (hcode_port (zs := zs) (by omega) (by omega) HSUM.out (.inr (E2.out.trans hG)))
            have HN := hidden (head_bad (zs := zs) (by rw [HC.out]; decide))
            have HS := hidden (HP.out.set (p := zpk))
            have HBF := hidden (HB.out.grown (setW_gr wr w.heap.size zpk) HB.out.size (fun k hk => by cases hk; exact Nat.le_refl _))
            have bF : (F == 0) = false := by simpa using hF
            subst hG
            clear hF
            simp only [setW, zpk] at HS HBF
            go_wp2
            exact bodyPost_ret (cell_res2 Tryz.results17 HS.out _ rfl rfl) rfl ⟨by rw [HC.out, HN.out.1, HN.out.2.1, HN.out.2.2]; rfl, HBF.out⟩
          · have HC := hidden (hcode_ok (zs := zs) (by omega) (by omega) HSUM.out (by rw [E0.out, E2.out]; omega))
            have HN := hidden (head_ok HC.out)
            have HS := hidden (HP.out.set (p := ⟨F, G, n4 zs 4, none, 0, 0, []⟩))
            have HBF := hidden (HB.out.grown (setW_gr wr w.heap.size ⟨F, G, n4 zs 4, none, 0, 0, []⟩) HB.out.size (fun k hk => by cases hk; exact Nat.le_refl _))
            have bF : (F == 0) = false := by simpa using hF
            have bG : (G == 0) = false := by simpa using hG
            clear hF hG
            simp only [setW] at HS HBF
            go_wp2
            exact bodyPost_ret (cell_res2 Tryz.results17 HS.out _ rfl rfl) rfl ⟨by rw [HC.out, HN.out.1, HN.out.2.1, HN.out.2.2, E0.out, E2.out]; rfl, HBF.out⟩
  · rw [Crc.code_bad hsum] at CK
    have HC := hidden (hcode_sum (zs := zs) (by omega) (by omega) hsum)
    have HN := hidden (head_bad (zs := zs) (by rw [HC.out]; decide))
    clear hsum
    go_enter Tryz.func17, Tryz.ntmps17
    go_wp2_with fail
    refine Calls.mono CK.out ?_
    rintro e w1 ⟨rfl, b1⟩
    have HB1 := hidden (HB0.out.trans (b1.mono HB0.out.size))
    have h0 := HP0.out.later b1
    have HS := hidden (h0.set (p := zpk))
    have HBF := hidden (HB1.out.grown (setW_gr w1 w.heap.size zpk) HB1.out.size (fun k hk => by cases hk; exact Nat.le_refl _))
    obtain ⟨z0, z1, z2, z3⟩ := h0.px
    have k0 := h0.fr 0
    have k1 := h0.fr 1
    have k2 := h0.fr 2
    have k3 := h0.fr 3
    clear b1 h0
    simp only [setW, zpk] at HS HBF
    go_wp2
    exact bodyPost_ret (cell_res2 Tryz.results17 HS.out _ rfl rfl) rfl ⟨by rw [HC.out, HN.out.1, HN.out.2.1, HN.out.2.2]; rfl, HBF.out⟩
end Go.Proofs.YtmnndkhdekpecaaGreatDoor.Pkt
