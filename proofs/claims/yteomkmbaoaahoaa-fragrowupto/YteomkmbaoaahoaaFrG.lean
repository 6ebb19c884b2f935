/-
  Join of package frag.
  Conditions: as at each lemma.
-/
import Derived.Test.YteomkmbaoaahoaaFrF
namespace Go.Proofs.Yteomkmbaoaahoaa.Fr
open Go.ChangeShapes Go.WideShapes Go.ChangeAt Go.RowKit
open Ba (hidden Has Only cell_lt heap_lt)
open Ow (Own)
set_option linter.unusedVariables false
set_option maxRecDepth 20000

/-- what whole does -/
def WhO (w : World) (vs : List V) (e : Ending) (w' : World) : Prop :=
  Below w.heap.size w w' ∧ ((∃ v, e = .returned v ∧ Mine w.heap.size w' v (flat vs) ∧ JO vs (flat vs) 0 0) ∨ ∃ (er : Int) (i : Nat), e = thrown er (i : Int) ∧ JO vs [] i er)
theorem lastEnd_at {vs : List V} {m : Nat} {v : V} (hl : vs.length = m + 1) (hv : vs[m]? = some v) : lastEnd vs = v.2.1 := by
  unfold lastEnd
  rw [hl, Nat.add_sub_cancel, hv]
  rfl
theorem badP_eq {n k : Nat} {bg en t t2 : Bool} {zs : List Int} (hlt : k < n) (e1 : t = decide (k = 0)) (e2 : t2 = decide (k + 1 = n)) : badP n k (bg, en, zs) = ((!(decide (0 < zs.length) && (bg == t))) || !(!en || t2)) := by
  unfold badP
  rw [e1, e2]
  simp only
  generalize decide (k = 0) = t0
  by_cases h0 : zs.length = 0
  · rw [decide_eq_true h0, decide_eq_false (show ¬ 0 < zs.length by omega)]; simp
  · rw [decide_eq_false h0, decide_eq_true (show 0 < zs.length by omega)]
    by_cases h1 : k + 1 = n
    · rw [decide_eq_true h1, decide_eq_false (show ¬ k + 1 < n by omega)]
      cases bg <;> cases en <;> cases t0 <;> rfl
    · rw [decide_eq_false h1, decide_eq_true (show k + 1 < n by omega)]
      cases bg <;> cases en <;> cases t0 <;> rfl
section
variable {w : World} {pa : Option Addr} {n pcap : Nat} {vs : List V}
set_option maxHeartbeats 4000000 in
theorem whole (hp : Pcs w pa n vs) (ht : (flat vs).length ≤ 140737488355328) : Calls Try.prog 23 #[.slice pa n pcap] w fun e w' => WhO w vs e w' := by
  have H := hidden hp
  have HT := hidden ht
  have hpl := hp.1
  have hnl := hp.2.1
  obtain ⟨L, hL⟩ : ∃ L : Int, (n : Int) - 1 = L := ⟨_, rfl⟩
  clear hp ht
  go_enter Try.func23, Try.ntmps23
  go_wp2_with fail
  go_loopw [11] (fun i wr => ∃ k : Nat, k ≤ n ∧ i = .int .i64 k ∧ Hid (NoBad vs k) ∧ Hid (Below w.heap.size w wr)) (fun i _ => n - (intOf i).toNat)
  case atStart => exact ⟨0, Nat.zero_le _, rfl, NoBad.zero _, Below.refl _ _⟩
  case round =>
    obtain ⟨k, hk, rfl, NB, HB⟩ := hrel
    rcases Nat.lt_or_ge k n with hlt | hge
    · have hki : (k : Int) < n := by omega
      obtain ⟨b, off, bg, en, zs, a, cap, rfl, hpk, c0, c1, c2, hr⟩ := (H.out.later HB.out).get hlt
      obtain ⟨t, ht⟩ : ∃ t : Bool, ((k : Int) == 0) = t := ⟨_, rfl⟩
      obtain ⟨t2, ht2⟩ : ∃ t : Bool, ((k : Int) == L) = t := ⟨_, rfl⟩
      have e1 : t = decide (k = 0) := by
        rw [← ht, Bool.eq_iff_iff, beq_iff_eq, decide_eq_true_eq]
        omega
      have e2 : t2 = decide (k + 1 = n) := by
        rw [← ht2, Bool.eq_iff_iff, beq_iff_eq, decide_eq_true_eq]
        omega
      have hB : Below wr.heap.size wr (wr.alloc (.cells #[.bool bg, .bool en, .slice a zs.length cap] 48)) := (Below.refl _ wr).alloc (Nat.le_refl _) _
      have HX := hidden (Has.new wr #[.bool bg, .bool en, .slice a zs.length cap] 48)
      have FI := hidden (fits bg en t a zs.length cap hr.2.2.1 (wr.alloc (.cells #[.bool bg, .bool en, .slice a zs.length cap] 48)))
      have HB1 := hidden (HB.out.trans (hB.mono HB.out.size))
      have hbad := badP_eq (bg := bg) (en := en) (zs := zs) hlt e1 e2
      rw [← hpl] at hbad
      have HBAD := hidden hbad
      have HPK := hidden hpk
      clear hB hpk hr hbad e1 e2
      cases hf : (decide (0 < zs.length) && (bg == t)) with
      | false =>
        rw [hf] at FI HBAD
        have HJ : Hid (∀ w2 : World, Below (wr.alloc (.cells #[.bool bg, .bool en, .slice a zs.length cap] 48)).heap.size (wr.alloc (.cells #[.bool bg, .bool en, .slice a zs.length cap] 48)) w2 → WhO w vs (thrown 150 (k : Int)) w2) := fun w2 b2 =>
          ⟨HB1.out.trans (b2.mono HB1.out.size), .inr ⟨150, k, rfl, .inl ⟨k, _, HPK.out, by rw [HBAD.out]; rfl, NB.out, rfl, rfl, rfl⟩⟩⟩
        clear HBAD HPK HB1 HX NB HB hf
        go_wp2_with fail
        refine Calls.mono FI.out ?_
        rintro e w2 ⟨rfl, b2⟩
        have HJ2 := hidden (HJ.out _ b2)
        clear HJ FI b2
        go_wp2_with fail
        refine Calls.mono (need_bad 150 (k : Int) _) ?_
        rintro e w3 ⟨rfl, rfl⟩
        exact ⟨rfl, HJ2.out⟩
      | true =>
        rw [hf] at FI HBAD
        have FIN : Hid (∀ w2 : World, Below (wr.alloc (.cells #[.bool bg, .bool en, .slice a zs.length cap] 48)).heap.size (wr.alloc (.cells #[.bool bg, .bool en, .slice a zs.length cap] 48)) w2 → Has w2 wr.heap.size #[.bool bg, .bool en, .slice a zs.length cap] 48 ∧ Hid (Below w.heap.size w w2) ∧ Hid (((!en || t2) = false → WhO w vs (thrown 150 (k : Int)) w2) ∧ ((!en || t2) = true → NoBad vs (k + 1)))) := fun w2 b2 =>
          ⟨HX.out.later b2, HB1.out.trans (b2.mono HB1.out.size), fun h => ⟨HB1.out.trans (b2.mono HB1.out.size), .inr ⟨150, k, rfl, .inl ⟨k, _, HPK.out, by rw [HBAD.out, h]; rfl, NB.out, rfl, rfl, rfl⟩⟩⟩, fun h => NB.out.next HPK.out (by rw [HBAD.out, h]; rfl)⟩
        clear HBAD HPK HB1 HX NB HB hf
        go_wp2_with fail
        refine Calls.mono FI.out ?_
        rintro e w2 ⟨rfl, b2⟩
        obtain ⟨hx, HB2, HE⟩ := FIN.out _ b2
        have c1 := hx.cell 1 rfl
        clear FIN FI b2 hx
        go_wp2_with fail
        refine Calls.mono (need_ok 150 (k : Int) _) ?_
        rintro e w3 ⟨rfl, rfl⟩
        cases en with
        | false =>
          have HN := hidden (HE.out.2 rfl)
          clear HE
          go_wp2_with fail
          refine Calls.mono (need_ok 150 (k : Int) _) ?_
          rintro e w3 ⟨rfl, rfl⟩
          go_wp2
          go_roundw
          case rel => exact ⟨k + 1, by omega, by go_num, HN.out, HB2.out⟩
          case measure => simp [intOf]; omega
        | true =>
          cases t2 with
          | false =>
            have HN := hidden (HE.out.1 rfl)
            clear HE
            go_wp2_with fail
            refine Calls.mono (need_bad 150 (k : Int) _) ?_
            rintro e w3 ⟨rfl, rfl⟩
            exact ⟨rfl, HN.out⟩
          | true =>
            have HN := hidden (HE.out.2 rfl)
            clear HE
            go_wp2_with fail
            refine Calls.mono (need_ok 150 (k : Int) _) ?_
            rintro e w3 ⟨rfl, rfl⟩
            go_wp2
            go_roundw
            case rel => exact ⟨k + 1, by omega, by go_num, HN.out, HB2.out⟩
            case measure => simp [intOf]; omega
    · obtain rfl : k = n := by omega
      have hnk : ¬ (k : Int) < (k : Int) := by omega
      have NBA : Hid (NoBad vs vs.length) := NB.out.full (by omega)
      have HNE : Hid (∀ v ∈ vs, v.2.2 ≠ []) := fun v hv => NBA.out.ne v (by rw [List.take_length]; exact hv)
      by_cases hL0 : 0 ≤ L
      · obtain ⟨m, rfl⟩ : ∃ m : Nat, L = (m : Int) := ⟨L.toNat, by omega⟩
        have hlen : vs.length = m + 1 := by omega
        have hmk : m < k := by omega
        obtain ⟨b, off, bg, en, zs, a, cap, rfl, hpk, c0, c1, c2, hr⟩ := (H.out.later HB.out).get (k := m) (by omega)
        have HLE := hidden (lastEnd_at hlen hpk)
        simp only at HLE
        clear hpk hr NB c0 c2 hlen hL
        cases en with
        | false =>
          have HJ : Hid (WhO w vs (thrown 150 (k : Int)) wr) := ⟨HB.out, .inr ⟨150, k, rfl, .inr (.inl ⟨NBA.out, HLE.out, rfl, hpl.symm, rfl⟩)⟩⟩
          go_wp2_with fail
          refine Calls.mono (need_bad 150 (k : Int) _) ?_
          rintro e w3 ⟨rfl, rfl⟩
          exact ⟨rfl, HJ.out⟩
        | true =>
          have SZ := hidden (size_ (pcap := pcap) (H.out.later HB.out) HT.out)
          obtain ⟨F, hF⟩ : ∃ F, F = (flat vs).length := ⟨_, rfl⟩
          rw [← hF] at SZ
          have hFl : F ≤ 140737488355328 := by rw [hF]; exact HT.out
          have HF := hidden hF
          clear hF
          go_wp2_with fail
          refine Calls.mono (need_ok 150 (k : Int) _) ?_
          rintro e w3 ⟨rfl, rfl⟩
          go_wp2_with fail
          refine Calls.mono SZ.out ?_
          rintro e w4 ⟨rfl, b4⟩
          have HB4 := hidden (HB.out.trans (b4.mono HB.out.size))
          clear SZ b4
          by_cases hF2 : F ≤ 65536
          · have hd : decide ((F : Int) ≤ 65536) = true := decide_eq_true (by omega)
            have GA := hidden (gathered (pcap := pcap) (H.out.later HB4.out) (by rw [← HF.out]; omega) HNE.out)
            have HJ := hidden (show JO vs (flat vs) 0 0 from .inr (.inr (.inr ⟨NBA.out, HLE.out, by rw [← HF.out]; exact hF2, rfl, rfl, rfl⟩)))
            go_wp2_with fail
            refine Calls.mono (need_ok 2 0 _) ?_
            rintro e w3 ⟨rfl, rfl⟩
            go_wp2_with fail
            refine Calls.mono GA.out ?_
            rintro e w5 ⟨v, rfl, hv, b5⟩
            have HW : Hid (WhO w vs (.returned v) w5) := ⟨HB4.out.trans (b5.mono HB4.out.size), .inl ⟨v, rfl, hv.le HB4.out.size, HJ.out⟩⟩
            clear hv b5 GA
            go_wp2
            go_ret
            exact HW.out
          · have hd : decide ((F : Int) ≤ 65536) = false := decide_eq_false (by omega)
            have HJ : Hid (WhO w vs (thrown 2 ((0 : Nat) : Int)) w4) := ⟨HB4.out, .inr ⟨2, 0, rfl, .inr (.inr (.inl ⟨NBA.out, HLE.out, by rw [← HF.out]; omega, rfl, rfl, rfl⟩))⟩⟩
            go_wp2_with fail
            refine Calls.mono (need_bad 2 0 _) ?_
            rintro e w3 ⟨rfl, rfl⟩
            exact ⟨rfl, HJ.out⟩
      · have hk0 : k = 0 := by omega
        have hLm : L = -1 := by omega
        subst hk0
        subst hLm
        obtain rfl := List.eq_nil_of_length_eq_zero hpl
        have HJ : Hid (WhO w [] (thrown 150 ((0 : Nat) : Int)) wr) := ⟨HB.out, .inr ⟨150, 0, rfl, .inr (.inl ⟨NBA.out, rfl, rfl, rfl, rfl⟩)⟩⟩
        go_wp2_with fail
        refine Calls.mono (need_bad 150 0 _) ?_
        rintro e w3 ⟨rfl, rfl⟩
        exact ⟨rfl, HJ.out⟩
end
end Go.Proofs.Yteomkmbaoaahoaa.Fr
