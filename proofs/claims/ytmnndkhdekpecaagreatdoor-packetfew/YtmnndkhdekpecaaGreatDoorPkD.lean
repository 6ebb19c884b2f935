/-
  The reader of package packet: chunks, the whole packet, the first fault, which is caught; Decode and Head.
  Conditions: the numbers lie within their kinds, the cells hold them; the bytes lie in the memory of an older world, which the reader does not touch.
-/
import Derived.Test.YtmnndkhdekpecaaGreatDoorPkC
namespace Go.Proofs.YtmnndkhdekpecaaGreatDoor.Pkt
open Go.ChangeShapes Go.WideShapes Go.ChangeAt Go.RowKit
open Chu (Ch Ck Cks Chk val cv cc ld n2 n4 gr_set gr_trans gr_drew gr_drewN gr_own gr_below AllOut)
open Par (hidden Bytes Row cell_lt cutA)
set_option linter.unusedVariables false
set_option maxRecDepth 20000

/-- what the reader's chunks leave -/
def ChkO (w w' : World) (zs : List Int) (e : Ending) : Prop :=
  Below w.heap.size w w' ∧ ∃ (l : List Ck) (q : Nat) (er : Int), AllOut (zs.drop 12) (l.map val) q er ∧
    ((er = 0 ∧ ∃ pa n pcap, e = .returned (.slice pa n pcap) ∧ Cks w.heap.size w' pa n l) ∨ (er ≠ 0 ∧ e = thrown er ((12 + q : Nat) : Int)))
theorem AllOut.place {zs : List Int} {l : List Ch} {p : Nat} {e : Int} (h : AllOut zs l p e) : p ≤ zs.length := by
  rcases h with ⟨_, rfl, _⟩ | ⟨_, _, l', y, m, _, h, _⟩
  · exact Nat.zero_le _
  · omega
theorem chunks (w0 w : World) (B : Nat) (zs : List Int) (h : Rp w0 w B zs 12) (hlen : zs.length ≤ 65536) :
    Calls Tryz.prog 59 #[.pointer (some ⟨B, 0, none⟩)] w fun e w' => ChkO w w' zs e := by
  obtain ⟨⟨a, len, cap, h1, hrow, hlc, hnn⟩, hpl, hby, hb, hB⟩ := h
  obtain ⟨c0, f0⟩ := rd_c h1
  have hl := hrow.1
  rw [List.length_drop] at hl
  have AL := hidden (Chu.all 0 w a len cap (zs.drop 12) (hrow.later hb) hlc (by omega))
  have hzl : (zs.drop 12).length = zs.length - 12 := List.length_drop
  clear h1 hrow hnn hb hby
  go_enter Tryz.func59, Tryz.ntmps59
  go_wp2_with fail
  refine Calls.mono AL.out ?_
  rintro e w1 ⟨pa, n, pcap, l, q, er, rfl, hck, hout, b1⟩
  have hq := AllOut.place hout
  have HCK := hidden hck
  have HO := hidden hout
  have HB := hidden b1
  clear hck hout b1 AL
  by_cases he : er = 0
  · subst he
    go_wp2
    go_ret
    exact ⟨HB.out, l, q, 0, HO.out, .inl ⟨rfl, _, _, _, rfl, HCK.out⟩⟩
  · have hne := Chu.bne_t he
    have HE := hidden he
    clear he
    go_wp2
    exact ⟨rfl, HB.out, l, q, er, HO.out, .inr ⟨HE.out, by unfold thrown; rw [show (12 : Int) + (q : Int) = ((12 + q : Nat) : Int) by omega]⟩⟩
/-- what the reader's packet leaves -/
def PacO (w w' : World) (B : Nat) (zs : List Int) (e : Ending) : Prop :=
  w.grownBy w' (some B) ∧ ((∃ p : Pk, e = .returned (pkv p) ∧ PkOk w.heap.size w' p ∧ DecOut zs (p.l.map val) 0 0 ∧ p.f = hfrom zs ∧ p.t = hto zs ∧ p.g = htag zs) ∨
    ∃ (q : Nat) (er : Int), e = thrown er (q : Int) ∧ er ≠ 0 ∧ DecOut zs [] q er)
theorem Cks.mono {base base' n : Nat} {w : World} {a : Option Addr} {l : List Ck} (h : Cks base w a n l) (hb : base' ≤ base) : Cks base' w a n l :=
  ⟨h.1, h.2.1, fun c hc => ⟨(h.2.2.1 c hc).1, (h.2.2.1 c hc).2.mono hb⟩, h.2.2.2.mono hb⟩
theorem Cks.setW {base n : Nat} {w : World} {a : Option Addr} {l : List Ck} (h : Cks base w a n l) {x : Nat} (hx : x < base) (p : Pk) : Cks base (setW w x p) a n l :=
  (((h.set (x := ⟨x, 0, none⟩) hx _).set (x := ⟨x, 1, none⟩) hx _).set (x := ⟨x, 2, none⟩) hx _).set (x := ⟨x, 3, none⟩) hx _
theorem Pb.chunks {w : World} {x : Nat} {f t g : Int} {a a' : Option Addr} {n n' c c' : Nat} {l l' : List Ck} (h : Pb w x ⟨f, t, g, a, n, c, l⟩) : Pb (w.setCell ⟨x, 3, none⟩ (.slice a' n' c')) x ⟨f, t, g, a', n', c', l'⟩ := Chu.heap_set w x 3 _ h
set_option maxHeartbeats 1000000 in
theorem packet_ (w0 w : World) (B : Nat) (zs : List Int) (h : Rp w0 w B zs 0) (ht : Crc.Tab w) :
    Calls Tryz.prog 35 #[.pointer (some ⟨B, 0, none⟩)] w fun e w' => PacO w w' B zs e := by
  have hb0 := below_new w (.cells (pkc zpk) 26)
  have hBl := h.lt
  have HD := hidden (head w0 _ B zs (h.later hb0) (ht.later hb0 ht.pos))
  have HPB := hidden (Pb.new w zpk)
  have HB0 := hidden hb0
  have HW0 := hidden h.2.2.2.2
  have hw0 := h.2.2.2.2
  have hs0 : (w.alloc (.cells (pkc zpk) 26)).heap.size = w.heap.size + 1 := by simp
  have ez : pkc zpk = #[.int .u16 0, .int .u16 0, .int .u32 0, .slice none 0 0] := rfl
  clear h ht hb0
  rw [ez] at HD HB0 hs0
  unfold Pb at HPB
  rw [ez] at HPB
  clear ez
  go_enter Tryz.func35, Tryz.ntmps35
  go_wp2_with fail
  generalize hW : World.alloc w _ = W at *
  clear hW
  refine Calls.mono HD.out ?_
  rintro e w1 ⟨hg1, ⟨hc, rfl, hr1⟩ | ⟨hc, rfl⟩⟩
  · have HPB1 := hidden (show Pb w1 w.heap.size zpk from Pb.gr (p := zpk) HPB.out hg1 (by omega))
    have HC := hidden hc
    have hs1 := hg1.size
    have HG1 := hidden (gr_trans (gr_below HB0.out _) hg1)
    have hbn := below_new w1 (.cells (pkc (hpk zs)) 26)
    have HRn := hidden (hr1.later hbn)
    have HPn := hidden (Pb.new w1 (hpk zs))
    have HPB2 := hidden (HPB1.out.later hbn)
    have HBn := hidden hbn
    have hs2 : (w1.alloc (.cells (pkc (hpk zs)) 26)).heap.size = w1.heap.size + 1 := by simp
    obtain ⟨z1, z2, z3, z4, z5⟩ := hcode_zero hc
    obtain ⟨k1, k2, k3⟩ := head_ok hc
    have HK := hidden (show (hpk zs).f = hfrom zs ∧ (hpk zs).t = hto zs ∧ (hpk zs).g = htag zs from ⟨k1.symm, k2.symm, k3.symm⟩)
    clear hc hg1 hr1 hbn z3 z4 z5 k1 k2 k3 HD HPB HB0
    have ez : pkc (hpk zs) = #[.int .u16 (n2 zs 0), .int .u16 (n2 zs 2), .int .u32 (n4 zs 4), .slice none 0 0] := rfl
    rw [ez] at HRn HPn HPB2 HBn hs2
    rw [show pkv (hpk zs) = .agg #[.int .u16 (n2 zs 0), .int .u16 (n2 zs 2), .int .u32 (n4 zs 4), .slice none 0 0] from rfl]
    clear ez
    obtain ⟨⟨a, len, cap, hh, hrow, hlc, hnn⟩, hpl, hby, hb, hB⟩ := HRn.out
    obtain ⟨c0, f0⟩ := rd_c hh
    have hl := hrow.1
    rw [List.length_drop] at hl
    have HBY := hidden hby
    clear hh hrow hnn hb hby
    go_wp2_with fail
    generalize hV : World.alloc w1 _ = V at *
    clear hV
    refine Calls.mono (size_ a len cap V) ?_
    rintro e w' ⟨rfl, rfl⟩
    rcases Nat.eq_zero_or_pos len with h0 | hpos
    · subst h0
      have HR := hidden (show PacO w V B zs (thrown 73 ((0 : Nat) : Int)) from ⟨gr_trans HG1.out (gr_below HBn.out _), .inr ⟨0, 73, rfl, by decide, .inr (.inl ⟨HC.out, by omega, rfl, rfl, rfl⟩)⟩⟩)
      go_wp2_with fail
      refine Calls.mono (need_bad 73 _) ?_
      rintro e w' ⟨rfl, rfl⟩
      exact ⟨rfl, HR.out⟩
    · have d0 : decide ((0 : Int) < (len : Int)) = true := decide_eq_true (by omega)
      have CH := hidden (chunks w0 V B zs HRn.out (by omega))
      have hVl := HPn.out.lt
      go_wp2_with fail
      refine Calls.mono (need_ok 73 _) ?_
      rintro e w' ⟨rfl, rfl⟩
      go_wp2_with fail
      refine Calls.mono CH.out ?_
      rintro e w2 ⟨b2, l, q, er, hout, ⟨rfl, pa, n, pcap, rfl, hck⟩ | ⟨he, rfl⟩⟩
      · have HO := hidden hout
        have hs3 := b2.size
        have HP2 := hidden (HPn.out.later b2)
        have HQ2 := hidden (HPB2.out.later b2)
        have HG2 := hidden (gr_trans HG1.out (gr_below (HBn.out.trans (b2.mono HBn.out.size)) _))
        have HCK := hidden (hck.set (x := ⟨w1.heap.size, 3, none⟩) (by simp only; omega) (.slice pa n pcap))
        have HP3 := hidden (Pb.chunks (a' := pa) (n' := n) (c' := pcap) (l' := l) HP2.out)
        have HQ3 := hidden (HQ2.out.gr (gr_set w2 w1.heap.size 3 (.slice pa n pcap)) (by omega))
        have HG3 := hidden (gr_own HG2.out (gr_set w2 w1.heap.size 3 (.slice pa n pcap)) (fun k hk => by cases hk; omega))
        have y3 := HP2.out.px.2.2.2
        have u3 := HP2.out.fr 3
        have hs4 : (w2.setCell ⟨w1.heap.size, 3, none⟩ (.slice pa n pcap)).heap.size = w2.heap.size := by simp [World.setCell]
        clear b2 hout hck CH HP2 HQ2 HG2
        have TG := hidden (together _ _ pa n pcap l HCK.out)
        go_wp2_with fail
        generalize hU : World.setCell w2 _ _ = U at *
        clear hU y3 u3
        refine Calls.mono TG.out ?_
        rintro e w3 ⟨tt, rfl, htt, b3⟩
        have HTT := hidden htt
        have HCK3 := hidden (HCK.out.later b3)
        have HP4 := hidden (HP3.out.later b3)
        have HQ4 := hidden (HQ3.out.later b3)
        have HG4 := hidden (gr_trans HG3.out (gr_below b3 _))
        have hs5 := b3.size
        clear htt b3 TG HCK HP3 HQ3 HG3
        cases tt with
        | false =>
          have HM := hidden (show Mixed (l.map val) from Classical.not_not.1 fun h => by simpa using HTT.out.2 h)
          have HR := hidden (show PacO w w3 B zs (thrown 74 ((0 : Nat) : Int)) from ⟨HG4.out, .inr ⟨0, 74, rfl, by decide, .inr (.inr ⟨HC.out, by omega, _, _, _, HO.out, .inr (.inl ⟨rfl, HM.out, rfl, rfl, rfl⟩)⟩)⟩⟩)
          go_wp2_with fail
          refine Calls.mono (need_bad 74 _) ?_
          rintro e w' ⟨rfl, rfl⟩
          exact ⟨rfl, HR.out⟩
        | true =>
          have HM := hidden (HTT.out.1 rfl)
          have HF := hidden (show PacO w (setW w3 w.heap.size ⟨n2 zs 0, n2 zs 2, n4 zs 4, pa, n, pcap, l⟩) B zs (.returned (pkv ⟨n2 zs 0, n2 zs 2, n4 zs 4, pa, n, pcap, l⟩)) from
            ⟨gr_own HG4.out (setW_gr _ _ _) (fun k hk => by cases hk; exact Nat.le_refl _), .inl ⟨_, rfl, ⟨Chu.n2_bound HBY.out 0, Chu.n2_bound HBY.out 2, Chu.n4_bound HBY.out 4, (Cks.mono (Cks.setW HCK3.out (by omega) _) (by omega))⟩,
              .inr (.inr ⟨HC.out, by omega, _, _, _, HO.out, .inr (.inr ⟨rfl, HM.out, rfl, rfl, rfl⟩)⟩), HK.out⟩⟩)
          have HS := hidden (HQ4.out.set (p := ⟨n2 zs 0, n2 zs 2, n4 zs 4, pa, n, pcap, l⟩))
          obtain ⟨y0, y1, y2, y3⟩ := HP4.out.px
          obtain ⟨v0, v1, v2, v3⟩ := HQ4.out.px
          have u0 := HQ4.out.fr 0
          have u1 := HQ4.out.fr 1
          have u2 := HQ4.out.fr 2
          have u3 := HQ4.out.fr 3
          simp only [setW] at HF HS
          simp only at y0 y1 y2 y3
          go_wp2_with fail
          refine Calls.mono (need_ok 74 _) ?_
          rintro e w' ⟨rfl, rfl⟩
          go_wp2
          exact bodyPost_ret (cell_res Tryz.results35 HS.out _ rfl) rfl HF.out
      · have HR := hidden (show PacO w w2 B zs (thrown er ((12 + q : Nat) : Int)) from ⟨gr_trans HG1.out (gr_below (HBn.out.trans (b2.mono HBn.out.size)) _), .inr ⟨12 + q, er, rfl, he, .inr (.inr ⟨HC.out, by omega, _, _, _, hout, .inl ⟨he, rfl, rfl, rfl⟩⟩)⟩⟩)
        clear he hout b2
        exact ⟨rfl, HR.out⟩
  · have HC := hidden (show DecOut zs [] 0 (hcode zs) from .inl ⟨hc, rfl, rfl, rfl⟩)
    have HE := hidden hc
    have HG1 := hidden (gr_trans (gr_below HB0.out _) hg1)
    clear hc hg1
    exact ⟨rfl, HG1.out, .inr ⟨0, hcode zs, rfl, HE.out, HC.out⟩⟩
end Go.Proofs.YtmnndkhdekpecaaGreatDoor.Pkt
