/-
  The document's Decode of a packet.
  Conditions: the numbers lie within their kinds, the cells hold them.
-/
import Derived.Test.YtmnndkhdekpecaaGreatDoorPkI
namespace Go.Proofs.YtmnndkhdekpecaaGreatDoor.Pkt
open Go.ChangeShapes Go.WideShapes Go.ChangeAt Go.RowKit
open Chu (Ch Ck Cks Chk val cv cc ld n2 n4 gx gr_set gr_trans gr_own gr_below AllOut)
open Par (hidden Bytes Row cell_lt cutA)
set_option linter.unusedVariables false
set_option maxRecDepth 20000

/-- what Decode tells, in one word -/
def DecA (w w' : World) (zs : List Int) (e : Ending) : Prop := ∃ (p : Pk) (q : Nat) (er : Int), e = .returned (.tuple #[pkv p, .int .i64 (q : Int), .int .i64 er]) ∧ DecO w w' zs p q er
set_option maxHeartbeats 1000000 in
theorem rDecode_ (base : Nat) (w : World) (a : Option Addr) (len cap : Nat) (zs : List Int) (hr : Row base w a len zs) (hlc : len ≤ cap) (hnn : a = none → len = 0 ∧ cap = 0) :
    Calls Tryz.prog 15 #[.slice a len cap] w fun e w' => DecA w w' zs e := by
  have hb0 := below_new w (.cells #[.int .u16 0, .int .u16 0, .int .u32 0, .slice none 0 0] 26)
  have HD := hidden (rHead base _ a len cap zs (hr.later hb0) hlc)
  have HR := hidden hr
  have HNN := hidden hnn
  have hl := hr.1
  have HB0 := hidden hb0
  have HP0 := hidden (show Pb (w.alloc (.cells #[.int .u16 0, .int .u16 0, .int .u32 0, .slice none 0 0] 26)) w.heap.size zpk from Pb.new w zpk)
  clear hr hnn hb0
  go_enter Tryz.func15, Tryz.ntmps15
  go_wp2_with fail
  generalize hW : World.alloc w _ = W at *
  clear hW
  refine Calls.mono HD.out ?_
  rintro e w1 ⟨rfl, b1⟩
  obtain ⟨F, hF⟩ : ∃ F, F = hfrom zs := ⟨_, rfl⟩
  obtain ⟨T, hT⟩ : ∃ T, T = hto zs := ⟨_, rfl⟩
  obtain ⟨G, hG⟩ : ∃ G, G = htag zs := ⟨_, rfl⟩
  obtain ⟨H, hH⟩ : ∃ H, H = hcode zs := ⟨_, rfl⟩
  rw [← hF, ← hT, ← hG, ← hH]
  have HE := hidden (show F = hfrom zs ∧ T = hto zs ∧ G = htag zs ∧ H = hcode zs from ⟨hF, hT, hG, hH⟩)
  clear hF hT hG hH
  have hbn := below_new w1 (.cells (pkc ⟨F, T, G, none, 0, 0, []⟩) 26)
  have b1n := b1.trans (hbn.mono b1.size)
  have HB1 := hidden (HB0.out.trans (b1n.mono HB0.out.size))
  have HP1 := hidden (HP0.out.later b1n)
  have HPW := hidden (HP0.out.later b1)
  have HBW := hidden (HB0.out.trans (b1.mono HB0.out.size))
  have HQ1 := hidden (Pb.new w1 ⟨F, T, G, none, 0, 0, []⟩)
  have hs1 : w.heap.size < w1.heap.size := Nat.lt_of_lt_of_le HP0.out.lt b1.size
  clear b1 b1n hbn HD HP0 HB0
  rw [show pkv ⟨F, T, G, none, 0, 0, []⟩ = .agg #[.int .u16 (F), .int .u16 (T), .int .u32 (G), .slice none 0 0] from rfl]
  rw [show pkc ⟨F, T, G, none, 0, 0, []⟩ = #[.int .u16 (F), .int .u16 (T), .int .u32 (G), .slice none 0 0] from rfl] at HB1 HP1 HQ1
  have hV0 : (w1.alloc (.cells #[.int .u16 (F), .int .u16 (T), .int .u32 (G), .slice none 0 0] 26)).heap.size = w1.heap.size + 1 := by simp
  obtain ⟨z0, z1, z2, z3⟩ := HPW.out.px
  have k0 := HPW.out.fr 0
  have k1 := HPW.out.fr 1
  have k2 := HPW.out.fr 2
  have k3 := HPW.out.fr 3
  by_cases hc : H = 0
  · have HC := hidden (show hcode zs = 0 from HE.out.2.2.2.symm.trans hc)
    obtain ⟨c1, c2, c3, c4, c5⟩ := hcode_zero HC.out
    rw [hc]
    clear hc c3 c4 c5
    by_cases h12 : len = 12
    · have HS := hidden ((HPW.out.set (p := zpk)).later (below_new _ (.cells #[.int .u16 F, .int .u16 T, .int .u32 G, .slice none 0 0] 26)))
      have HBG := hidden (HBW.out.grown (setW_gr w1 w.heap.size zpk) HBW.out.size (fun k hk => by cases hk; exact Nat.le_refl _))
      have HBF := hidden (HBG.out.trans ((below_new _ (.cells #[.int .u16 F, .int .u16 T, .int .u32 G, .slice none 0 0] 26)).mono HBG.out.size))
      clear HBG
      subst h12
      simp only [setW, zpk] at HS HBF
      go_wp2
      exact bodyPost_ret (cell_res3 Tryz.results15 HS.out _ rfl rfl rfl) rfl ⟨zpk, 0, 73, rfl, ⟨zpk_ok _ _, .inr (.inl ⟨HC.out, by omega, rfl, rfl, rfl⟩), fun h => absurd h (by decide), fun _ => rfl, HBF.out⟩⟩
    · have i12 : ((len : Int) == 12) = false := by simp; omega
      have i2 : (12 : Int) ≤ (len : Int) := by omega
      have i3 : (12 : Int) ≤ (cap : Int) := by omega
      obtain ⟨b, off, rfl⟩ : ∃ b off, a = some ⟨b, off, none⟩ := by
        rcases HR.out.2.2.2 with h | ⟨b, off, h, _⟩
        · omega
        · exact ⟨b, off, h⟩
      have n12 : ¬ cap = 12 := by omega
      have hcut : cutA (some (⟨b, off, none⟩ : Addr)) cap 12 = some ⟨b, off + 12, none⟩ := by unfold cutA; rw [if_neg n12]; rfl
      have hrow := Par.cutA_row (k := 12) (HR.out.later HB1.out) (by omega) hlc HNN.out
      rw [hcut] at hrow
      have AL := hidden (Chu.rAll base (w1.alloc (.cells #[.int .u16 F, .int .u16 T, .int .u32 G, .slice none 0 0] 26)) _ (len - 12) (cap - 12) (zs.drop 12) hrow (by omega) (by omega))
      have hzl : (zs.drop 12).length = zs.length - 12 := List.length_drop
      clear hrow hcut
      go_wp2_with fail
      refine Calls.mono AL.out ?_
      rintro e w2 ⟨pa, n, pcap, l, q, er, rfl, hck, hout, b2⟩
      have hq := AllOut.place hout
      have HB2 := hidden (HB1.out.trans (b2.mono HB1.out.size))
      have HP2 := hidden (HP1.out.later b2)
      have HQ2 := hidden (HQ1.out.later b2)
      have HO := hidden hout
      have HCK := hidden hck
      have hs2 := b2.size
      clear b2 hout hck AL z0 z1 z2 z3 k0 k1 k2 k3 HB1 HP1 HQ1
      obtain ⟨z0, z1, z2, z3⟩ := HP2.out.px
      have k0 := HP2.out.fr 0
      have k1 := HP2.out.fr 1
      have k2 := HP2.out.fr 2
      have k3 := HP2.out.fr 3
      by_cases he : er = 0
      · subst he
        have MX := hidden (mixed_says _ w2 pa n pcap l HCK.out)
        go_wp2_with fail
        refine Calls.mono MX.out ?_
        rintro e w' ⟨t, rfl, ht, rfl⟩
        have HTT := hidden ht
        clear ht MX
        cases t with
        | true =>
          have HMX := hidden (HTT.out.1 rfl)
          have HS := hidden (HP2.out.set (p := zpk))
          have HBF := hidden (HB2.out.grown (setW_gr w2 w.heap.size zpk) HB2.out.size (fun k hk => by cases hk; exact Nat.le_refl _))
          simp only [setW, zpk] at HS HBF
          go_wp2
          exact bodyPost_ret (cell_res3 Tryz.results15 HS.out _ rfl rfl rfl) rfl ⟨zpk, 0, 74, rfl, ⟨zpk_ok _ _, .inr (.inr ⟨HC.out, by omega, _, _, _, HO.out, .inr (.inl ⟨rfl, HMX.out, rfl, rfl, rfl⟩)⟩), fun h => absurd h (by decide), fun _ => rfl, HBF.out⟩⟩
        | false =>
          have HMX := hidden (show ¬ Mixed (l.map val) from fun h => by simpa using HTT.out.2 h)
          have y3 := HQ2.out.px.2.2.2
          have u3 := HQ2.out.fr 3
          have HQ3 := hidden (Pb.chunks (a' := pa) (n' := n) (c' := pcap) (l' := l) HQ2.out)
          have HP3 := hidden (HP2.out.gr (gr_set w2 w1.heap.size 3 (.slice pa n pcap)) (by omega))
          have HCK3 := hidden (HCK.out.set (x := ⟨w1.heap.size, 3, none⟩) (by simp only; omega) (.slice pa n pcap))
          have HB3 := hidden (HB2.out.grown (gr_set w2 w1.heap.size 3 (.slice pa n pcap)) HB2.out.size (fun k hk => by cases hk; omega))
          have HS := hidden (HP3.out.set (p := ⟨F, T, G, pa, n, pcap, l⟩))
          have HBF := hidden (HB3.out.grown (setW_gr _ w.heap.size ⟨F, T, G, pa, n, pcap, l⟩) HB3.out.size (fun k hk => by cases hk; exact Nat.le_refl _))
          obtain ⟨e1, e2, e3⟩ := head_ok HC.out
          obtain ⟨p0, p1, p2, p3⟩ := HQ3.out.px
          obtain ⟨m0, m1, m2, m3⟩ := HP3.out.px
          have f0 := HP3.out.fr 0
          have f1 := HP3.out.fr 1
          have f2 := HP3.out.fr 2
          have f3 := HP3.out.fr 3
          have HEE := hidden (show F = n2 zs 0 ∧ T = n2 zs 2 ∧ G = n4 zs 4 from ⟨HE.out.1.trans e1, HE.out.2.1.trans e2, HE.out.2.2.1.trans e3⟩)
          clear e1 e2 e3 z0 z1 z2 z3 k0 k1 k2 k3
          have HCS := hidden (show Cks w.heap.size (setW (w2.setCell ⟨w1.heap.size, 3, none⟩ (.slice pa n pcap)) w.heap.size ⟨F, T, G, pa, n, pcap, l⟩) pa n l from Cks.mono (base := (w1.alloc (.cells #[.int .u16 F, .int .u16 T, .int .u32 G, .slice none 0 0] 26)).heap.size) (Cks.setW HCK3.out (by omega) ⟨F, T, G, pa, n, pcap, l⟩) (by omega))
          simp only [setW] at HS HBF HCS
          go_wp2
          exact bodyPost_ret (cell_res3 Tryz.results15 HS.out _ rfl rfl rfl) rfl ⟨_, 0, 0, rfl, ⟨⟨by simp only; rw [HEE.out.1]; exact Chu.n2_bound HR.out.2.1 0, by simp only; rw [HEE.out.2.1]; exact Chu.n2_bound HR.out.2.1 2, by simp only; rw [HEE.out.2.2]; exact Chu.n4_bound HR.out.2.1 4, HCS.out⟩,
              .inr (.inr ⟨HC.out, by omega, _, _, _, HO.out, .inr (.inr ⟨rfl, HMX.out, rfl, rfl, rfl⟩)⟩), fun _ => ⟨HE.out.1, HE.out.2.1, HE.out.2.2.1⟩, fun h => absurd rfl h, HBF.out⟩⟩
      · have hne := Chu.bne_t he
        have HS := hidden (HP2.out.set (p := zpk))
        have HBF := hidden (HB2.out.grown (setW_gr w2 w.heap.size zpk) HB2.out.size (fun k hk => by cases hk; exact Nat.le_refl _))
        have hle : l.map val = [] := by
          rcases HO.out with ⟨h, _⟩ | ⟨_, h, _⟩
          · exact absurd h he
          · exact h
        have HQN := hidden (show (12 : Int) + (q : Int) = ((12 + q : Nat) : Int) by omega)
        have HER := hidden he
        clear he hle
        simp only [setW, zpk] at HS HBF
        go_wp2
        exact bodyPost_ret (cell_res3 Tryz.results15 HS.out _ rfl rfl rfl) rfl ⟨zpk, 12 + q, er, by rw [← HQN.out]; rfl, ⟨zpk_ok _ _, .inr (.inr ⟨HC.out, by omega, _, _, _, HO.out, .inl ⟨HER.out, rfl, rfl, rfl⟩⟩), fun h => absurd h HER.out, fun _ => rfl, HBF.out⟩⟩
  · have hne := Chu.bne_t hc
    have HS := hidden ((HPW.out.set (p := zpk)).later (below_new _ (.cells #[.int .u16 F, .int .u16 T, .int .u32 G, .slice none 0 0] 26)))
    have HBG := hidden (HBW.out.grown (setW_gr w1 w.heap.size zpk) HBW.out.size (fun k hk => by cases hk; exact Nat.le_refl _))
    have HBF := hidden (HBG.out.trans ((below_new _ (.cells #[.int .u16 F, .int .u16 T, .int .u32 G, .slice none 0 0] 26)).mono HBG.out.size))
    have HHC := hidden hc
    clear hc HBG
    simp only [setW, zpk] at HS HBF
    go_wp2
    exact bodyPost_ret (cell_res3 Tryz.results15 HS.out _ rfl rfl rfl) rfl ⟨zpk, 0, H, rfl, ⟨zpk_ok _ _, .inl ⟨by rw [← HE.out.2.2.2]; exact HHC.out, HE.out.2.2.2, rfl, rfl⟩, fun h => absurd h HHC.out, fun _ => rfl, HBF.out⟩⟩
theorem rDecode (base : Nat) (w : World) (a : Option Addr) (len cap : Nat) (zs : List Int) (hr : Row base w a len zs) (hlc : len ≤ cap) (hnn : a = none → len = 0 ∧ cap = 0) :
    Calls Tryz.prog 15 #[.slice a len cap] w fun e w' => ∃ (p : Pk) (q : Nat) (er : Int), e = .returned (.tuple #[pkv p, .int .i64 (q : Int), .int .i64 er]) ∧ DecO w w' zs p q er := rDecode_ base w a len cap zs hr hlc hnn
end Go.Proofs.YtmnndkhdekpecaaGreatDoor.Pkt
