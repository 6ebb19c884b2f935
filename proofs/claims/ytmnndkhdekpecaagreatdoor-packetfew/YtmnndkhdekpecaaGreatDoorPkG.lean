/-
  Which packets are alike: package packet's Same and the document's.
  Conditions: the numbers lie within their kinds, the cells hold them.
-/
import Derived.Test.YtmnndkhdekpecaaGreatDoorPkA
import Derived.Deep.RegionHeld3
namespace Go.Proofs.YtmnndkhdekpecaaGreatDoor.Pkt
open Go.ChangeShapes Go.WideShapes Go.ChangeAt Go.RowKit
open Chu (Ch Ck Cks Chk val cv cc ld)
open Par (hidden Bytes Row cell_lt)
set_option linter.unusedVariables false
set_option maxRecDepth 20000
attribute [local go_sem ↓] Chu.execOp_ld Chu.execOp_bx Chu.execOp_st
attribute [local go_sem] Chu.run_box

/-- two packets are alike -/
def SamePk (p q : Pk) : Prop := p.f = q.f ∧ p.t = q.t ∧ p.g = q.g ∧ p.l.map val = q.l.map val
set_option maxRecDepth 20000 in
set_option maxHeartbeats 1000000 in
theorem rSameChunks (base base' : Nat) (w : World) (pa qa : Option Addr) (n m pcap qcap : Nat) (ps qs : List Ck) (hp : Cks base w pa n ps) (hq : Cks base' w qa m qs) :
    Calls Tryz.prog 22 #[.slice pa n pcap, .slice qa m qcap] w fun e w' => ∃ t : Bool, e = .returned (.bool t) ∧ (t = true ↔ ps.map val = qs.map val) ∧ Below w.heap.size w w' := by
  have HP := hidden hp
  have HQ := hidden hq
  have hpl := hp.1
  have hql := hq.1
  have hnl := hp.2.1
  have hml := hq.2.1
  clear hp hq
  by_cases hm : n = m
  · subst hm
    go_enter Tryz.func22, Tryz.ntmps22
    go_wp2_with fail
    go_loopw [5] (fun i wr => ∃ k : Nat, k ≤ n ∧ i = .int .i64 k ∧ (ps.take k).map val = (qs.take k).map val ∧ Below w.heap.size w wr) (fun i _ => n - (intOf i).toNat)
    case atStart => exact ⟨0, Nat.zero_le _, rfl, rfl, Below.refl _ _⟩
    case round =>
      obtain ⟨k, hk, rfl, hsame, hbl⟩ := hrel
      rcases Nat.lt_or_ge k n with hlt | hge
      · obtain ⟨b, off, c, rfl, hpk, hl1, hc1⟩ := (HP.out.later hbl).get hlt
        obtain ⟨b', off', d, rfl, hqk, hl2, hc2⟩ := (HQ.out.later hbl).get hlt
        have HPK := hidden hpk
        have HQK := hidden hqk
        have HSA := hidden hsame
        have HB := hidden hbl
        have HK := hidden (show ∀ x, Below w.heap.size w x → ((ld (.pointer (some ⟨b, off + k * 15, none⟩))).run Tryz.prog x = .ok (cv c) x ∧ (ld (.pointer (some ⟨b', off' + k * 15, none⟩))).run Tryz.prog x = .ok (cv d) x ∧ Below w.heap.size w x) from fun x hx => by
          obtain ⟨b0, o0, c0, e0, hp0, h0, _⟩ := (HP.out.later hx).get hlt
          obtain ⟨b1, o1, c1, e1, hp1, h1, _⟩ := (HQ.out.later hx).get hlt
          cases e0
          cases e1
          rw [hpk] at hp0
          rw [hqk] at hp1
          cases hp0
          cases hp1
          exact ⟨h0, h1, hx⟩)
        have SM := hidden (show ∀ x, Below w.heap.size w x → Calls Tryz.prog 46 #[cv c, cv d] x fun e w' => ∃ t : Bool, e = .returned (.bool t) ∧ (t = true ↔ val c = val d) ∧ Below w.heap.size w w' from fun x hx => by
          obtain ⟨b0, o0, c0, e0, hp0, h0, k0⟩ := (HP.out.later hx).get hlt
          obtain ⟨b1, o1, c1, e1, hp1, h1, k1⟩ := (HQ.out.later hx).get hlt
          cases e0
          cases e1
          rw [hpk] at hp0
          rw [hqk] at hp1
          cases hp0
          cases hp1
          refine (Chu.rSame base base' x c d k0.2 k1.2).mono ?_
          rintro e w' ⟨t, rfl, h, b⟩
          exact ⟨t, rfl, h, hx.trans (b.mono hx.size)⟩)
        have HB0 := hidden (show Below w.heap.size w wr.drew from Par.below_drewN hbl 1)
        clear hpk hqk hsame hbl hc1 hc2 hl1 hl2
        go_wp2_with fail
        go_region_held3 (fun x => (ld (.pointer (some ⟨b, off + k * 15, none⟩))).run Tryz.prog x = .ok (cv c) x ∧ (ld (.pointer (some ⟨b', off' + k * 15, none⟩))).run Tryz.prog x = .ok (cv d) x ∧ Below w.heap.size w x)
          (first | (exact HK.out _ HB0.out) | (exact HK.out _ (by assumption)))
          (first
            | (go_at_call 46; refine Calls.mono (SM.out _ (by assumption)) ?_; rintro e w2 ⟨tt, rfl, h1, B2⟩))
        have H1 := hidden h1
        clear h1
        cases tt with
        | true =>
          go_wp2
          go_roundw
          case rel => exact ⟨k + 1, by omega, by go_num, Chu.vals_step HPK.out HQK.out HSA.out (H1.out.1 (by simp)), B2⟩
          case measure => simp [intOf]; omega
        | false =>
          go_wp2
          go_ret
          exact ⟨false, rfl, ⟨fun h => (by cases h), fun h => (by simpa using H1.out.2 (Chu.vals_at HPK.out HQK.out h))⟩, B2⟩
      · obtain rfl : n = k := by omega
        rw [List.take_of_length_le (by omega), List.take_of_length_le (by omega)] at hsame
        have HSA := hidden hsame
        clear hsame
        go_wp2
        go_ret
        exact ⟨true, rfl, ⟨fun _ => HSA.out, fun _ => rfl⟩, hbl⟩
  · have hne : ¬ (n : Int) = (m : Int) := by omega
    go_enter Tryz.func22, Tryz.ntmps22
    go_wp2
    go_ret
    refine ⟨false, rfl, ⟨fun h => (by cases h), fun h => ?_⟩, Below.refl _ _⟩
    have := congrArg List.length h
    simp only [List.length_map] at this
    omega
theorem rSame (base base' : Nat) (w : World) (p q : Pk) (hp : PkOk base w p) (hq : PkOk base' w q) :
    Calls Tryz.prog 18 #[pkv p, pkv q] w fun e w' => ∃ t : Bool, e = .returned (.bool t) ∧ (t = true ↔ SamePk p q) ∧ Below w.heap.size w w' := by
  have hb : Below w.heap.size w ((w.alloc (.cells (pkc p) 26)).alloc (.cells (pkc q) 26)) := ((Below.refl _ w).alloc (Nat.le_refl _) _).alloc (by simp) _
  have HB := hidden hb
  have SC := hidden (rSameChunks base base' _ p.a q.a p.n q.n p.c q.c p.l q.l (hp.2.2.2.later hb) (hq.2.2.2.later hb))
  clear hp hq hb
  simp only [pkv, pkc] at *
  by_cases h1 : p.f = q.f
  · by_cases h2 : p.t = q.t
    · by_cases h3 : p.g = q.g
      · have HE := hidden (show SamePk p q ↔ p.l.map val = q.l.map val from ⟨fun h => h.2.2.2, fun h => ⟨h1, h2, h3, h⟩⟩)
        rw [h1, h2, h3] at SC HB ⊢
        clear h1 h2 h3
        go_enter Tryz.func18, Tryz.ntmps18
        go_wp2_with fail
        refine Calls.mono SC.out ?_
        rintro e w1 ⟨t, rfl, ht, b1⟩
        have HT := hidden ht
        have HB1 := hidden (HB.out.trans (b1.mono HB.out.size))
        clear ht b1
        go_wp2
        go_ret
        exact ⟨t, rfl, by rw [HT.out, HE.out], HB1.out⟩
      · have HE := hidden (show ¬ SamePk p q from fun h => h3 h.2.2.1)
        have b3 : (p.g == q.g) = false := by simpa using h3
        rw [h1, h2] at SC HB ⊢
        clear h1 h2 h3
        go_enter Tryz.func18, Tryz.ntmps18
        go_wp2
        go_ret
        exact ⟨false, rfl, ⟨fun h => (by cases h), fun h => absurd h HE.out⟩, HB.out⟩
    · have HE := hidden (show ¬ SamePk p q from fun h => h2 h.2.1)
      have b2 : (p.t == q.t) = false := by simpa using h2
      rw [h1] at SC HB ⊢
      clear h1 h2
      go_enter Tryz.func18, Tryz.ntmps18
      go_wp2
      go_ret
      exact ⟨false, rfl, ⟨fun h => (by cases h), fun h => absurd h HE.out⟩, HB.out⟩
  · have HE := hidden (show ¬ SamePk p q from fun h => h1 h.1)
    have b1 : (p.f == q.f) = false := by simpa using h1
    clear h1
    go_enter Tryz.func18, Tryz.ntmps18
    go_wp2
    go_ret
    exact ⟨false, rfl, ⟨fun h => (by cases h), fun h => absurd h HE.out⟩, HB.out⟩
set_option maxHeartbeats 1000000 in
theorem equalFunc (base base' : Nat) (w : World) (pa qa : Option Addr) (n m pcap qcap : Nat) (ps qs : List Ck) (hp : Cks base w pa n ps) (hq : Cks base' w qa m qs) :
    Calls Tryz.prog 39 #[.slice pa n pcap, .slice qa m qcap, .func (.func 40) #[] #[]] w fun e w' => ∃ t : Bool, e = .returned (.bool t) ∧ (t = true ↔ ps.map val = qs.map val) ∧ Below w.heap.size w w' := by
  have HP := hidden hp
  have HQ := hidden hq
  have hpl := hp.1
  have hql := hq.1
  have hnl := hp.2.1
  have hml := hq.2.1
  clear hp hq
  by_cases hm : n = m
  · subst hm
    go_enter Tryz.func39, Tryz.ntmps39
    go_wp2_with fail
    go_loopw [17] (fun i wr => ∃ k : Nat, k ≤ n ∧ i = .int .i64 k ∧ (ps.take k).map val = (qs.take k).map val ∧ Below w.heap.size w wr) (fun i _ => n - (intOf i).toNat)
    case atStart => exact ⟨0, Nat.zero_le _, rfl, rfl, Below.refl _ _⟩
    case round =>
      obtain ⟨k, hk, rfl, hsame, hbl⟩ := hrel
      rcases Nat.lt_or_ge k n with hlt | hge
      · obtain ⟨b, off, c, rfl, hpk, hl1, hc1⟩ := (HP.out.later hbl).get hlt
        obtain ⟨W1, hS1, hbx1, hbw1⟩ := Chu.newvar wr c
        have hb1 := hbl.trans (hbw1.mono hbl.size)
        obtain ⟨b', off', d, rfl, hqk, hl2, hc2⟩ := (HQ.out.later hb1).get hlt
        obtain ⟨W2, hS2, hbx2, hbw2⟩ := Chu.newvar W1 d
        have l1 := (hbx1.later hbw2).ld
        have l2 := hbx2.ld
        have HPK := hidden hpk
        have HQK := hidden hqk
        have HSA := hidden hsame
        have HB2 := hidden (hb1.trans (hbw2.mono hb1.size))
        have SM := hidden (Chu.same base base' W2 c d ((hc1.later hbw1).later hbw2).2 (hc2.later hbw2).2)
        clear hpk hqk hsame hbl hb1 hc1 hc2 hbx1 hbx2 hbw1 hbw2
        go_wp2_with fail
        refine Calls.mono SM.out ?_
        rintro e w2 ⟨tt, rfl, h1, b2⟩
        have H1 := hidden h1
        have B2 : Below w.heap.size w w2 := HB2.out.trans (b2.mono HB2.out.size)
        clear h1 b2
        cases tt with
        | true =>
          go_wp2
          go_roundw
          case rel => exact ⟨k + 1, by omega, by go_num, Chu.vals_step HPK.out HQK.out HSA.out (H1.out.1 (by simp)), B2⟩
          case measure => simp [intOf]; omega
        | false =>
          go_wp2
          go_ret
          exact ⟨false, rfl, ⟨fun h => (by cases h), fun h => (by simpa using H1.out.2 (Chu.vals_at HPK.out HQK.out h))⟩, B2⟩
      · obtain rfl : n = k := by omega
        rw [List.take_of_length_le (by omega), List.take_of_length_le (by omega)] at hsame
        have HSA := hidden hsame
        clear hsame
        go_wp2
        go_ret
        exact ⟨true, rfl, ⟨fun _ => HSA.out, fun _ => rfl⟩, hbl⟩
  · have hne : ¬ (n : Int) = (m : Int) := by omega
    go_enter Tryz.func39, Tryz.ntmps39
    go_wp2
    go_ret
    refine ⟨false, rfl, ⟨fun h => (by cases h), fun h => ?_⟩, Below.refl _ _⟩
    have := congrArg List.length h
    simp only [List.length_map] at this
    omega
theorem same (base base' : Nat) (w : World) (p q : Pk) (hp : PkOk base w p) (hq : PkOk base' w q) :
    Calls Tryz.prog 19 #[pkv p, pkv q] w fun e w' => ∃ t : Bool, e = .returned (.bool t) ∧ (t = true ↔ SamePk p q) ∧ Below w.heap.size w w' := by
  have hb : Below w.heap.size w ((w.alloc (.cells (pkc p) 26)).alloc (.cells (pkc q) 26)) := ((Below.refl _ w).alloc (Nat.le_refl _) _).alloc (by simp) _
  have HB := hidden hb
  have SC := hidden (equalFunc base base' _ p.a q.a p.n q.n p.c q.c p.l q.l (hp.2.2.2.later hb) (hq.2.2.2.later hb))
  clear hp hq hb
  simp only [pkv, pkc] at *
  by_cases h1 : p.f = q.f
  · by_cases h2 : p.t = q.t
    · by_cases h3 : p.g = q.g
      · have HE := hidden (show SamePk p q ↔ p.l.map val = q.l.map val from ⟨fun h => h.2.2.2, fun h => ⟨h1, h2, h3, h⟩⟩)
        rw [h1, h2, h3] at SC HB ⊢
        clear h1 h2 h3
        go_enter Tryz.func19, Tryz.ntmps19
        go_wp2_with fail
        refine Calls.mono SC.out ?_
        rintro e w1 ⟨t, rfl, ht, b1⟩
        have HT := hidden ht
        have HB1 := hidden (HB.out.trans (b1.mono HB.out.size))
        clear ht b1
        go_wp2
        go_ret
        exact ⟨t, rfl, by rw [HT.out, HE.out], HB1.out⟩
      · have HE := hidden (show ¬ SamePk p q from fun h => h3 h.2.2.1)
        have b3 : (p.g == q.g) = false := by simpa using h3
        rw [h1, h2] at SC HB ⊢
        clear h1 h2 h3
        go_enter Tryz.func19, Tryz.ntmps19
        go_wp2
        go_ret
        exact ⟨false, rfl, ⟨fun h => (by cases h), fun h => absurd h HE.out⟩, HB.out⟩
    · have HE := hidden (show ¬ SamePk p q from fun h => h2 h.2.1)
      have b2 : (p.t == q.t) = false := by simpa using h2
      rw [h1] at SC HB ⊢
      clear h1 h2
      go_enter Tryz.func19, Tryz.ntmps19
      go_wp2
      go_ret
      exact ⟨false, rfl, ⟨fun h => (by cases h), fun h => absurd h HE.out⟩, HB.out⟩
  · have HE := hidden (show ¬ SamePk p q from fun h => h1 h.1)
    have b1 : (p.f == q.f) = false := by simpa using h1
    clear h1
    go_enter Tryz.func19, Tryz.ntmps19
    go_wp2
    go_ret
    exact ⟨false, rfl, ⟨fun h => (by cases h), fun h => absurd h HE.out⟩, HB.out⟩
end Go.Proofs.YtmnndkhdekpecaaGreatDoor.Pkt
