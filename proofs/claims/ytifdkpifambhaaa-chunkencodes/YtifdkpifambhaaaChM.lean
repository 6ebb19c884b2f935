/-
  The reader of package chunk: parameters; reports.
  Conditions: the numbers lie within their kinds, the cells hold them; the bytes lie in the memory of an older world, which the reader does not touch.
-/
import Derived.Test.YtifdkpifambhaaaChL
namespace Go.Proofs.Ytifdkpifambhaaa.Chu
open Go.ChangeShapes Go.WideShapes Go.ChangeAt Go.RowKit
open Par (hidden Bytes Row Prm Prms cell_lt Cap cells_new cutA thrown form_of)
set_option linter.unusedVariables false

theorem prms_mono {base base' : Nat} {w : World} {pa : Option Addr} {n : Nat} {ps : List Prm} (h : Prms base w pa n ps) (hb : base' ≤ base) : Prms base' w pa n ps := by
  obtain ⟨h1, h2, h3, h4⟩ := h
  refine ⟨h1, h2, fun p hp => (h3 p hp).mono hb, h4.imp id ?_⟩
  rintro ⟨b, off, rfl, hbb, hc⟩
  exact ⟨b, off, rfl, Nat.le_trans hb hbb, hc⟩
theorem params (base : Nat) (w0 w : World) (B p : Nat) (v : List Int) (h : Rp base w0 w B v p) :
    Calls Try.prog 75 #[.pointer (some ⟨B, 0, none⟩)] w fun e w' =>
      (∃ pa n pcap ps q, e = .returned (.slice pa n pcap) ∧ Prms w.heap.size w' pa n ps ∧ Par.Out (v.drop p) (ps.map Par.val) q 0 ∧ Rp base w0 w' B v v.length ∧ w.grownBy w' (some B)) ∨
      (∃ l q c, e = thrown c ∧ c ≠ 0 ∧ Par.Out (v.drop p) l q c ∧ w.grownBy w' (some B)) := by
  have HR := hidden h
  obtain ⟨⟨a, len, cap, h1, hrow, hlc, hnn⟩, hpl, _, _, _⟩ := h
  obtain ⟨c0, f0⟩ := rd_c h1
  have hl := hrow.1
  rw [List.length_drop] at hl
  clear h1 hrow hnn
  have CUT := hidden (show ∀ x : World, (∃ m, x = w.drewN m) → Calls Try.prog 60 #[.pointer (some ⟨B, 0, none⟩), .int .i64 (len : Int)] x fun e w' => ∃ a' cap', e = .returned (.slice a' len cap') ∧ Row base w0 a' len (v.drop p) ∧ len ≤ cap' ∧ (a' = none → len = 0 ∧ cap' = 0) ∧ Rp base w0 w' B v v.length ∧ w.grownBy w' (some B) by
    rintro x ⟨m, rfl⟩
    refine (cut base w0 (w.drewN m) B len _ HR.out.1 (by rw [List.length_drop]; omega)).mono ?_
    rintro e w1 ⟨a', cap', rfl, hr, h2, h3, h4, h5⟩
    rw [List.take_of_length_le (by rw [List.length_drop]; omega)] at hr
    rw [List.drop_drop, show p + len = v.length by omega] at h4
    have g : w.grownBy w1 (some B) := by obtain ⟨a1, a2, a3, a4, a5⟩ := h5; exact ⟨a1, a2, a3, a4, a5⟩
    exact ⟨a', cap', rfl, hr, h2, h3, HR.out.grown (Nat.le_refl _) h4 g, g⟩)
  go_enter Try.func75, Try.ntmps75
  go_wp2_with fail
  go_region_with (first
    | (go_at_call 60; refine Calls.mono (CUT.out _ ⟨_, rfl⟩) ?_; rintro e w1 ⟨a', cap', rfl, hr, h2, h3, h4, h5⟩)
    | (go_at_call 86; refine Calls.mono (Par.decode w1 a' len cap' (v.drop p) ((hr.later h4.2.2.2.1).mono (Nat.zero_le _)) h2 h3) ?_; rintro e w2 ⟨pa, n, pcap, ps, q, c, rfl, hP, _, hO, b2⟩))
  have hs1 : w.heap.size ≤ w1.heap.size := by obtain ⟨_, _, _, h, _⟩ := h5; exact h
  have HP := hidden (prms_mono hP hs1)
  have HO := hidden hO
  have H4 := hidden (h4.later b2)
  have HG := hidden (gr_trans h5 (gr_below b2 _))
  clear hP hO h4 h5 b2 hl hr h2 h3
  by_cases hc : c = 0
  · subst hc
    go_wp2_with fail
    refine Calls.mono (need_ok 0 _) ?_
    rintro e w3 ⟨rfl, rfl⟩
    go_wp2
    go_ret
    exact .inl ⟨pa, n, pcap, ps, q, rfl, HP.out, HO.out, H4.out, HG.out⟩
  · have e0 := beq_f hc
    have HC := hidden hc
    clear hc
    go_wp2_with fail
    refine Calls.mono (need_bad c _) ?_
    rintro e w3 ⟨rfl, rfl⟩
    exact ⟨rfl, .inr ⟨_, _, c, rfl, HC.out, HO.out, HG.out⟩⟩
end Go.Proofs.Ytifdkpifambhaaa.Chu
