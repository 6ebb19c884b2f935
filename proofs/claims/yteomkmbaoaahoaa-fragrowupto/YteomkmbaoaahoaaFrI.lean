/-
  Several messages in a row of pieces, as package frag finds them.
  Conditions: as at each lemma.
-/
import Derived.Test.YteomkmbaoaahoaaFrF
namespace Go.Proofs.Yteomkmbaoaahoaa.Fr
open Go.ChangeShapes Go.WideShapes Go.ChangeAt Go.RowKit
open Ba (hidden Has Only cell_lt heap_lt)
open Ow (Own)
set_option linter.unusedVariables false
set_option maxRecDepth 20000

theorem sl_pieces {b off len cap A E : Nat} (h1 : A < E) (h2 : E ≤ len) (h3 : len ≤ cap) (w : World) : (Instr.sliceAt 23 (.slice (some ⟨b, off, none⟩) len cap) (some (.int .i64 (A : Int))) (some (.int .i64 (E : Int))) none).run Try.prog w = .ok (.slice (some ⟨b, off + A * 3, none⟩) (E - A) (cap - A)) w := by
  have h4 : ¬ cap = A := by omega
  simp [go_sem, h4, add_at]
  rw [if_pos (by omega), if_pos (by omega)]
/-- what several does -/
def SvO (w : World) (vs : List V) (e : Ending) (w' : World) : Prop :=
  Below w.heap.size w w' ∧ ((∃ (v : Value) (ts : List T) (left : Nat), e = .returned (.tuple #[v, .int .i64 (left : Int)]) ∧ LT w.heap.size w' v ts ∧ RO vs (ts.map (·.2)) left 0 0) ∨ ∃ (er : Int) (i : Nat), e = thrown er (i : Int) ∧ RO vs [] 0 i er)
/-- where the loop stands -/
def At (vs : List V) (k f r : Nat) (ts : List T) : Prop := ∃ s, run s0 (vs.take k) = some s ∧ f + s.2.2 = k ∧ r + s.2.1.length = 65536 ∧ ts.map (·.2) = s.1
theorem At.zero (vs : List V) : At vs 0 0 65536 [] := ⟨s0, rfl, rfl, rfl, rfl⟩
section
variable {vs : List V} {k f r : Nat} {ts : List T} {bg en : Bool} {zs : List Int}
theorem At.bad (h : At vs k f r ts) (hv : vs[k]? = some (bg, en, zs)) {t : Bool} (ht : t = decide (k = f)) (hf : (decide (0 < zs.length) && (bg == t)) = false) : RO vs [] 0 k 150 := by
  obtain ⟨s, h1, h2, h3, h4⟩ := h
  have e : stE s (bg, en, zs) = 150 := by
    unfold stE
    rw [if_pos]
    simp only
    have e1 : decide (s.2.2 = 0) = t := by rw [ht, decide_eq_decide]; omega
    rw [e1]
    by_cases h0 : zs.length = 0
    · exact .inl h0
    · rw [decide_eq_true (show 0 < zs.length by omega), Bool.true_and] at hf
      exact .inr (by simpa using hf)
  exact .inl ⟨k, s, _, h1, hv, by rw [e]; decide, rfl, rfl, rfl, e.symm⟩
theorem At.fine (h : At vs k f r ts) {t : Bool} (ht : t = decide (k = f)) (hf : (decide (0 < zs.length) && (bg == t)) = true) : ∃ s, run s0 (vs.take k) = some s ∧ f + s.2.2 = k ∧ r + s.2.1.length = 65536 ∧ ts.map (·.2) = s.1 ∧ stE s (bg, en, zs) = if zs.length ≤ r then 0 else 2 := by
  obtain ⟨s, h1, h2, h3, h4⟩ := h
  refine ⟨s, h1, h2, h3, h4, ?_⟩
  rw [Bool.and_eq_true, decide_eq_true_eq, beq_iff_eq] at hf
  have e1 : decide (s.2.2 = 0) = t := by rw [ht, decide_eq_decide]; omega
  unfold stE
  rw [if_neg]
  · simp only
    by_cases hr : zs.length ≤ r
    · rw [if_pos hr, if_neg (by omega)]
    · rw [if_neg hr, if_pos (by omega)]
  · simp only
    rw [e1]
    rintro (h | h)
    · omega
    · exact h hf.2
theorem At.long (h : At vs k f r ts) (hv : vs[k]? = some (bg, en, zs)) {t : Bool} (ht : t = decide (k = f)) (hf : (decide (0 < zs.length) && (bg == t)) = true) (hr : ¬ zs.length ≤ r) : RO vs [] 0 k 2 := by
  obtain ⟨s, h1, h2, h3, h4, h5⟩ := h.fine (en := en) ht hf
  rw [if_neg hr] at h5
  exact .inl ⟨k, s, _, h1, hv, by rw [h5]; decide, rfl, rfl, rfl, h5.symm⟩
theorem At.on (h : At vs k f r ts) (hv : vs[k]? = some (bg, false, zs)) {t : Bool} (ht : t = decide (k = f)) (hf : (decide (0 < zs.length) && (bg == t)) = true) (hr : zs.length ≤ r) : At vs (k + 1) f (r - zs.length) ts := by
  obtain ⟨s, h1, h2, h3, h4, h5⟩ := h.fine (en := false) ht hf
  rw [if_pos hr] at h5
  refine ⟨_, (run_next h1 hv).trans (if_pos h5), ?_, ?_, h4⟩
  · simp only [stS, cond_false]; omega
  · simp only [stS, cond_false, List.length_append]; omega
theorem At.done (h : At vs k f r ts) (hv : vs[k]? = some (bg, true, zs)) {t : Bool} (ht : t = decide (k = f)) (hf : (decide (0 < zs.length) && (bg == t)) = true) (hr : zs.length ≤ r) : f ≤ k ∧ (flat ((vs.drop f).take (k + 1 - f))).length ≤ 65536 ∧ (∀ v ∈ (vs.drop f).take (k + 1 - f), v.2.2 ≠ []) ∧ ∀ u : Value, At vs (k + 1) (k + 1) 65536 (ts ++ [(u, flat ((vs.drop f).take (k + 1 - f)))]) := by
  obtain ⟨s, h1, h2, h3, h4, h5⟩ := h.fine (en := true) ht hf
  rw [if_pos hr] at h5
  have hk : k < vs.length := (List.getElem?_eq_some_iff.1 hv).1
  obtain ⟨i1, i2, i3, i4, i5⟩ := run_seg k s (by omega) h1
  have e := drop_take_next i1 hv
  rw [show k - s.2.2 = f by omega] at e i2 i5
  rw [show k + 1 - f = s.2.2 + 1 by omega, e]
  have ef : flat ((vs.drop f).take s.2.2 ++ [(bg, true, zs)]) = s.2.1 ++ zs := by rw [flat_append, flat_one, ← i2]
  rw [ef]
  refine ⟨by omega, by rw [List.length_append]; omega, fun v hv' => ?_, fun u => ⟨_, (run_next h1 hv).trans (if_pos h5), ?_, ?_, ?_⟩⟩
  · rcases List.mem_append.1 hv' with hm | hm
    · exact i5 v hm
    · obtain rfl := List.mem_singleton.1 hm
      rw [Bool.and_eq_true, decide_eq_true_eq] at hf
      exact List.ne_nil_of_length_pos hf.1
  · simp [stS]
  · simp [stS]
  · simp [stS, h4]
theorem At.end (h : At vs k f r ts) (hk : vs.length = k) : f ≤ k ∧ RO vs (ts.map (·.2)) (k - f) 0 0 := by
  obtain ⟨s, h1, h2, h3, h4⟩ := h
  rw [List.take_of_length_le (by omega)] at h1
  exact ⟨by omega, .inr ⟨s, h1, h4, by omega, rfl, rfl⟩⟩
theorem At.le (h : At vs k f r ts) (hk : k ≤ vs.length) : f ≤ k ∧ r ≤ 65536 ∧ ts.length ≤ k := by
  obtain ⟨s, h1, h2, h3, h4⟩ := h
  have := (run_seg k s hk h1).2.2.2.1
  have e := congrArg List.length h4
  rw [List.length_map] at e
  omega
end
section
variable {w : World} {pa : Option Addr} {n pcap : Nat} {vs : List V}
set_option maxHeartbeats 8000000 in
theorem several (hp : Pcs w pa n vs) (hc : n ≤ pcap) : Calls Try.prog 25 #[.slice pa n pcap] w fun e w' => SvO w vs e w' := by
  have H := hidden hp
  have hpl := hp.1
  have hnl := hp.2.1
  clear hp
  go_enter Try.func25, Try.ntmps25
  go_wp2_with fail
  go_loopw [4, 5, 6, 11] (fun v ff rr i wr => ∃ (k f r : Nat) (ts : List T), k ≤ n ∧ f ≤ k ∧ r ≤ 65536 ∧ i = .int .i64 k ∧ ff = .int .i64 f ∧ rr = .int .i64 r ∧ Hid (At vs k f r ts) ∧ Hid (LT w.heap.size wr v ts) ∧ Hid (Below w.heap.size w wr)) (fun _ _ _ i _ => n - (intOf i).toNat)
  case atStart => exact ⟨0, 0, 65536, [], Nat.zero_le _, Nat.zero_le _, Nat.le_refl _, rfl, rfl, rfl, At.zero _, LT.nil _ _, Below.refl _ _⟩
  case round =>
    obtain ⟨k, f, r, ts, hk, hfk, hr6, rfl, rfl, rfl, AT, MT, HB⟩ := hrel
    rcases Nat.lt_or_ge k n with hlt | hge
    · have hki : (k : Int) < n := by omega
      obtain ⟨b, off, bg, en, zs, a, cap, rfl, hpk, c0, c1, c2, hr⟩ := (H.out.later HB.out).get hlt
      obtain ⟨t, ht⟩ : ∃ t : Bool, ((k : Int) == (f : Int)) = t := ⟨_, rfl⟩
      have e1 : t = decide (k = f) := by
        rw [← ht, Bool.eq_iff_iff, beq_iff_eq, decide_eq_true_eq]
        omega
      have hB : Below wr.heap.size wr (wr.alloc (.cells #[.bool bg, .bool en, .slice a zs.length cap] 48)) := (Below.refl _ wr).alloc (Nat.le_refl _) _
      have HX := hidden (Has.new wr #[.bool bg, .bool en, .slice a zs.length cap] 48)
      have hzl : zs.length ≤ 140737488355328 := hr.2.2.1
      have FI := hidden (fits bg en t a zs.length cap hr.2.2.1 (wr.alloc (.cells #[.bool bg, .bool en, .slice a zs.length cap] 48)))
      have HB1 := hidden (HB.out.trans (hB.mono HB.out.size))
      have MT1 := hidden (MT.out.later hB)
      have E1 := hidden e1
      have HPK := hidden hpk
      clear hB hpk hr e1 MT HB
      generalize hZ : zs.length = Z at *
      cases hf : (decide (0 < Z) && (bg == t)) with
      | false =>
        rw [hf] at FI
        have HJ : Hid (∀ w2 : World, Below (wr.alloc (.cells #[.bool bg, .bool en, .slice a Z cap] 48)).heap.size (wr.alloc (.cells #[.bool bg, .bool en, .slice a Z cap] 48)) w2 → SvO w vs (thrown 150 (k : Int)) w2) := fun w2 b2 =>
          ⟨HB1.out.trans (b2.mono HB1.out.size), .inr ⟨150, k, rfl, AT.out.bad HPK.out E1.out (by rw [hZ]; exact hf)⟩⟩
        clear HPK HB1 HX AT MT1 hf hZ
        go_wp2_with fail
        refine Calls.mono FI.out ?_
        rintro e w2 ⟨rfl, b2⟩
        have HJ2 := hidden (HJ.out _ b2)
        clear HJ FI b2
        go_wp2_with fail
        refine Calls.mono (need_bad 150 (k : Int) _) ?_
        rintro e w3 ⟨rfl, rfl⟩
        exact ⟨rfl, HJ2.out⟩
      | true =>
        rw [hf] at FI
        have HFF : Hid ((decide (0 < zs.length) && (bg == t)) = true) := by unfold Hid; rw [hZ]; exact hf
        clear hf
        by_cases hzr : Z ≤ r
        · have hd : decide ((Z : Int) ≤ (r : Int)) = true := decide_eq_true (by omega)
          have hrz : (r : Int) - (Z : Int) = ((r - Z : Nat) : Int) := by omega
          go_wp2_with fail
          refine Calls.mono FI.out ?_
          rintro e w2 ⟨rfl, b2⟩
          have hx := HX.out.later b2
          have d1 := hx.cell 1 rfl
          have d2 := hx.cell 2 rfl
          have HB2 := hidden (HB1.out.trans (b2.mono HB1.out.size))
          have MT2 := hidden (MT1.out.later b2)
          clear FI b2 hx HX HB1 MT1
          go_wp2_with fail
          refine Calls.mono (need_ok 150 (k : Int) _) ?_
          rintro e w3 ⟨rfl, rfl⟩
          go_wp2_with fail
          refine Calls.mono (need_ok 2 (k : Int) _) ?_
          rintro e w3 ⟨rfl, rfl⟩
          cases en with
          | false =>
            have AT2 := hidden (AT.out.on HPK.out E1.out HFF.out (by rw [hZ]; exact hzr))
            rw [hZ] at AT2
            clear AT HPK HFF hZ
            go_wp2
            go_roundw
            case rel => exact ⟨k + 1, f, r - Z, ts, by omega, by omega, by omega, by go_num, rfl, rfl, AT2.out, MT2.out, HB2.out⟩
            case measure => simp [intOf]; omega
          | true =>
            obtain ⟨a1, a2, a3, a4⟩ := AT.out.done HPK.out E1.out HFF.out (by rw [hZ]; exact hzr)
            have hsl := sl_pieces (b := b) (off := off) (A := f) (E := k + 1) (len := n) (cap := pcap) (by omega) (by omega) hc
            rw [show ((k + 1 : Nat) : Int) = (k : Int) + 1 by omega] at hsl
            have GA := hidden (gathered (pcap := pcap - f) ((H.out.later HB2.out).part f (k + 1 - f) (by omega)) (by omega) a3)
            have hts := (AT.out.le (by omega)).2.2
            have A4 := hidden a4
            clear AT HPK HFF hZ a1 a2 a3 a4
            generalize flat ((vs.drop f).take (k + 1 - f)) = M at *
            go_wp2_with fail
            refine Calls.mono GA.out ?_
            rintro e w4 ⟨gv, rfl, hv, b4⟩
            obtain ⟨ga, gc, rfl, _⟩ := hv.row
            have hB5 : Below w4.heap.size w4 (w4.alloc (.cells #[.slice ga M.length gc] 22)) := (Below.refl _ w4).alloc (Nat.le_refl _) _
            have hbs := HB2.out.size
            have hb4 := b4.size
            have hb5 := hB5.size
            obtain ⟨v6, w6, hrun, m6, g6⟩ := app_text (c := 1) (q := (.slice ga M.length gc, M)) (g := w4.heap.size) (o := 0) ((MT2.out.later b4).later hB5) ((hv.later hB5).le hbs) ((Has.new w4 #[.slice ga M.length gc] 22).cell 0 rfl) (by omega) (by omega)
            have HB6 := hidden (((HB2.out.trans (b4.mono hbs)).trans (hB5.mono (by omega))).grown g6 (by omega) (fun j hj => (MT2.out.1.lt j hj).1))
            have M6 := hidden m6
            have AT6 := hidden (A4.out (.slice ga M.length gc))
            have HR := hidden hrun
            clear hrun m6 g6 hv b4 hB5 GA A4 MT2 HB2 hbs hb4 hb5 hts
            go_wp2_with (at_builtin; refine Rg.wpList_app rfl _ _ _ rfl rfl rfl HR.out ?_; clear HR)
            go_wp2
            go_roundw
            case rel => exact ⟨k + 1, k + 1, 65536, _, by omega, by omega, by omega, by go_num, by go_num, rfl, AT6.out, M6.out, HB6.out⟩
            case measure => simp [intOf]; omega
        · have hd : decide ((Z : Int) ≤ (r : Int)) = false := decide_eq_false (by omega)
          have HJ : Hid (∀ w2 : World, Below (wr.alloc (.cells #[.bool bg, .bool en, .slice a Z cap] 48)).heap.size (wr.alloc (.cells #[.bool bg, .bool en, .slice a Z cap] 48)) w2 → SvO w vs (thrown 2 (k : Int)) w2 ∧ Has w2 wr.heap.size #[.bool bg, .bool en, .slice a Z cap] 48) := fun w2 b2 =>
            ⟨⟨HB1.out.trans (b2.mono HB1.out.size), .inr ⟨2, k, rfl, AT.out.long HPK.out E1.out HFF.out (by rw [hZ]; exact hzr)⟩⟩, HX.out.later b2⟩
          clear HPK HB1 HX AT MT1 HFF hZ
          go_wp2_with fail
          refine Calls.mono FI.out ?_
          rintro e w2 ⟨rfl, b2⟩
          obtain ⟨hj, hx⟩ := HJ.out _ b2
          have HJ2 := hidden hj
          have d2 := hx.cell 2 rfl
          clear HJ FI b2 hj hx
          go_wp2_with fail
          refine Calls.mono (need_ok 150 (k : Int) _) ?_
          rintro e w3 ⟨rfl, rfl⟩
          go_wp2_with fail
          refine Calls.mono (need_bad 2 (k : Int) _) ?_
          rintro e w3 ⟨rfl, rfl⟩
          exact ⟨rfl, HJ2.out⟩
    · obtain rfl : k = n := by omega
      have hnf : (k : Int) - (f : Int) = ((k - f : Nat) : Int) := by omega
      have HO : Hid (SvO w vs (.returned (.tuple #[u4, .int .i64 ((k - f : Nat) : Int)])) wr) := ⟨HB.out, .inl ⟨u4, ts, k - f, rfl, MT.out, (AT.out.end hpl).2⟩⟩
      clear AT MT HB
      go_wp2
      go_ret2
      exact HO.out
end
end Go.Proofs.Yteomkmbaoaahoaa.Fr
