/-
  The document's: a view that may be, whether views may be, the class, the fit paths, the better one, equal rows.
  Conditions: as at each lemma.
-/
import Derived.Test.YtcflcibncbipbaaScH
namespace Go.Proofs.Ytcflcibncbipbaa.Sc
open Go.ChangeShapes Go.WideShapes Go.ChangeAt Go.RowKit Go.Sort Go.Lib
open Ba (hidden Has Only)
open Ow (Own)
set_option linter.unusedVariables false

theorem rmay (s p t : Int) (b : Bool) (w : World) : Calls Try.prog 29 #[.agg #[.int .i64 s, .int .i64 p, .int .i64 t, .bool b]] w fun e w' => e = .returned (.bool (okB (s, p, t, b))) ∧ Below w.heap.size w w' := by
  have B0 := hidden ((Below.refl _ w).alloc (Nat.le_refl _) (.cells #[.int .i64 s, .int .i64 p, .int .i64 t, .bool b] 42))
  by_cases h1 : 1 ≤ s
  · by_cases h2 : s ≤ 3
    · by_cases h3 : 0 ≤ p
      · by_cases h4 : p ≤ 1073741824
        · by_cases h5 : 0 ≤ t
          · by_cases h6 : t ≤ 1048576
            · rw [show okB (s, p, t, b) = true from okB_t ⟨⟨h1, h2⟩, ⟨h3, h4⟩, ⟨h5, h6⟩⟩]
              go_enter Try.func29, Try.ntmps29
              go_wp2
              go_ret
              exact ⟨rfl, B0.out⟩
            · rw [show okB (s, p, t, b) = false from okB_f fun h => h6 h.2.2.2]
              go_enter Try.func29, Try.ntmps29
              go_wp2
              go_ret
              exact ⟨rfl, B0.out⟩
          · rw [show okB (s, p, t, b) = false from okB_f fun h => h5 h.2.2.1]
            go_enter Try.func29, Try.ntmps29
            go_wp2
            go_ret
            exact ⟨rfl, B0.out⟩
        · rw [show okB (s, p, t, b) = false from okB_f fun h => h4 h.2.1.2]
          go_enter Try.func29, Try.ntmps29
          go_wp2
          go_ret
          exact ⟨rfl, B0.out⟩
      · rw [show okB (s, p, t, b) = false from okB_f fun h => h3 h.2.1.1]
        go_enter Try.func29, Try.ntmps29
        go_wp2
        go_ret
        exact ⟨rfl, B0.out⟩
    · rw [show okB (s, p, t, b) = false from okB_f fun h => h2 h.1.2]
      go_enter Try.func29, Try.ntmps29
      go_wp2
      go_ret
      exact ⟨rfl, B0.out⟩
  · rw [show okB (s, p, t, b) = false from okB_f fun h => h1 h.1.1]
    go_enter Try.func29, Try.ntmps29
    go_wp2
    go_ret
    exact ⟨rfl, B0.out⟩
section
variable {w : World} {a : Option Addr} {n cap : Nat} {vs : List Vw}
theorem rcheck (h : Vs w a n vs) : Calls Try.prog 14 #[.slice a n cap] w fun e w' => e = .returned (.int .i64 (chk vs)) ∧ Below w.heap.size w w' := by
  have hn : n ≤ 140737488355328 := h.2.2.1
  have hl := h.len
  have B0 := hidden (Below.refl w.heap.size w)
  by_cases h1 : n = 0
  · have HE := hidden (chk_many (vs := vs) (by omega))
    subst h1
    clear h
    go_enter Try.func14, Try.ntmps14
    go_wp2
    go_ret
    exact ⟨by rw [HE.out]; rfl, B0.out⟩
  · by_cases h2 : (n : Int) > 8
    · have HE := hidden (chk_many (vs := vs) (by omega))
      have h1' : ¬ ((n : Int) = 0) := by omega
      clear h
      go_enter Try.func14, Try.ntmps14
      go_wp2
      go_ret
      exact ⟨by rw [HE.out]; rfl, B0.out⟩
    · have h1' : ¬ ((n : Int) = 0) := by omega
      have h8 : 1 ≤ vs.length ∧ vs.length ≤ 8 := by omega
      have H := hidden h
      have HL := hidden hl
      have H8 := hidden h8
      clear h h8 h1 hl
      go_enter Try.func14, Try.ntmps14
      go_wp2_with fail
      go_loopw [3] (fun i wr => ∃ q : Int, 0 ≤ q ∧ q ≤ (n : Int) ∧ i = .int .i64 q ∧ Hid ((vs.take q.toNat).all okB = true) ∧ Hid (Below w.heap.size w wr)) (fun i _ => n - (intOf i).toNat)
      case atStart => exact ⟨0, by omega, by omega, rfl, rfl, B0.out⟩
      case round =>
        clear B0
        obtain ⟨q, j1, j2, rfl, HA, HB⟩ := hrel
        by_cases hq : q < (n : Int)
        · obtain ⟨r, off, rfl, hr⟩ := Vs.open H.out (by omega)
          obtain ⟨c0, c1, c2, c3⟩ := Vs.get (H.out.later HB.out) (q := q.toNat) (by omega)
          have WR := hidden (show Calls Try.prog 29 #[.agg #[.int .i64 (stt vs q.toNat), .int .i64 (spc vs q.toNat), .int .i64 (trp vs q.toNat), .bool (shr vs q.toNat)]] wr fun e w' => e = .returned (.bool (okq vs q.toNat)) ∧ Below wr.heap.size wr w' from rmay (stt vs q.toNat) (spc vs q.toNat) (trp vs q.toNat) (shr vs q.toNat) wr)
          have HN : Hid ((vs.take (q + 1).toNat).all okB = ((vs.take q.toNat).all okB && okq vs q.toNat)) := by
            show (vs.take (q + 1).toNat).all okB = _
            rw [show (q + 1).toNat = q.toNat + 1 by omega]
            exact all_next (by have := HL.out; omega)
          cases hk : okq vs q.toNat with
          | true =>
            rw [hk] at WR HN
            clear hk
            go_wp2_with fail
            refine Calls.mono WR.out ?_
            rintro e w1 ⟨rfl, hB1⟩
            have HB1 := hidden hB1
            clear hB1
            go_wp2
            go_roundw
            case rel => exact ⟨q + 1, by omega, by omega, rfl, by show (vs.take (q + 1).toNat).all okB = true; rw [HN.out, HA.out]; rfl, HB.out.trans (HB1.out.mono HB.out.size)⟩
            case measure => simp [intOf]; omega
          | false =>
            have HE := hidden (chk_arg H8.out (all_f (by have := HL.out; omega) hk))
            rw [hk] at WR
            clear hk
            go_wp2_with fail
            refine Calls.mono WR.out ?_
            rintro e w1 ⟨rfl, hB1⟩
            have HB1 := hidden hB1
            clear hB1
            go_wp2
            go_ret
            exact ⟨by rw [HE.out]; rfl, HB.out.trans (HB1.out.mono HB.out.size)⟩
        · obtain rfl : q = (n : Int) := by omega
          have HE := hidden (chk_ok H8.out (by
            have e := HA.out
            rw [show ((n : Int)).toNat = vs.length by have := HL.out; omega, List.take_length] at e
            exact e))
          go_wp2
          go_ret
          exact ⟨by rw [HE.out]; rfl, HB.out⟩
/-- the best state -/
def rb (vs : List Vw) : Nat → Int
  | 0 => 3
  | k + 1 => min (rb vs k) (stt vs k)
def rcl (vs : List Vw) : Int := if rb vs vs.length = 3 then 0 else rb vs vs.length
theorem rclass (h : Vs w a n vs) : Calls Try.prog 32 #[.slice a n cap] w fun e w' => e = .returned (.int .i64 (rcl vs)) ∧ w = w' := by
  have hn : n ≤ 140737488355328 := h.2.2.1
  have H := hidden h
  have HL := hidden h.len
  clear h
  go_enter Try.func32, Try.ntmps32
  go_wp2_with fail
  go_loopw [3, 4] (fun b i wr => ∃ q : Int, 0 ≤ q ∧ q ≤ (n : Int) ∧ i = .int .i64 q ∧ b = .int .i64 (rb vs q.toNat) ∧ w = wr) (fun _ i _ => n - (intOf i).toNat)
  case atStart => exact ⟨0, by omega, by omega, rfl, rfl, rfl⟩
  case round =>
    obtain ⟨q, j1, j2, rfl, rfl, rfl⟩ := hrel
    by_cases hq : q < (n : Int)
    · obtain ⟨r, off, rfl, hr⟩ := Vs.open H.out (by omega)
      obtain ⟨c0, c1, c2, c3⟩ := Vs.get H.out (q := q.toNat) (by omega)
      have HN : Hid (rb vs (q + 1).toNat = min (rb vs q.toNat) (stt vs q.toNat)) := by
        show rb vs (q + 1).toNat = _
        rw [show (q + 1).toNat = q.toNat + 1 by omega]
        rfl
      clear c1 c2 c3
      generalize rb vs q.toNat = R at *
      generalize stt vs q.toNat = S at *
      go_wp2
      go_roundw
      case rel => exact ⟨q + 1, by omega, by omega, rfl, by rw [HN.out], by first | rfl | trivial⟩
      case measure => simp [intOf]; omega
    · obtain rfl : q = (n : Int) := by omega
      have HE : Hid (rb vs ((n : Int)).toNat = rb vs vs.length) := by
        show _ = _
        rw [show ((n : Int)).toNat = vs.length by have := HL.out; omega]
      rw [HE.out]
      by_cases h3 : rb vs vs.length = 3
      · have HR : Hid (rcl vs = 0) := if_pos h3
        rw [h3]
        go_wp2
        go_ret
        exact ⟨by rw [HR.out]; rfl, rfl⟩
      · have HR : Hid (rcl vs = rb vs vs.length) := if_neg h3
        generalize rb vs vs.length = R at *
        go_wp2
        go_ret
        exact ⟨by rw [HR.out]; rfl, rfl⟩
end
end Go.Proofs.Ytcflcibncbipbaa.Sc
