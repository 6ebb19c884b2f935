/-
  Windows of several paths: all of them behind a report.
  Conditions: as at each lemma.
-/
import Derived.Test.YtbcdoilfmfckiaaCoD
import Derived.Laws.OwnMore
import Derived.Lib.SliceRun
namespace Go.Proofs.Ytbcdoilfmfckiaa.Co
open Go.ChangeShapes Go.WideShapes Go.ChangeAt Go.RowKit
open Ba (hidden Has Only)
open Ow (Own)
set_option linter.unusedVariables false

abbrev byt (y : Int) : Prop := 0 ≤ y ∧ y ≤ 1073741824
theorem window {w : World} {a a2 : Option Addr} {n cap n2 cap2 : Nat} {zs : List Fw} {ys : List Int} (h : Fl w a n zs) (hg : ∀ z ∈ zs, good z) (h8 : n ≤ 8) {m : Int} (hm : 1 ≤ m ∧ m ≤ 65536) (h2 : Nu w a2 n2 ys) (hb : ∀ y ∈ ys, byt y) (k : Int) {i : Int} (hi : 0 ≤ i ∧ i < n) (hi2 : i < n2) : Calls Try.prog 34 #[.agg (rep a n cap m a2 n2 cap2 k), .int .i64 i] w fun e w' => e = .returned (.int .i64 (wn zs i.toNat (ys.getD i.toNat 0) m k)) ∧ Below w.heap.size w w' := by
  obtain ⟨c, t, hz⟩ := get_ (zs := zs) (q := i.toNat) (by rw [h.len]; omega)
  have hy : ys[i.toNat]? = some (ys.getD i.toNat 0) := by
    rw [List.getD_eq_getElem?_getD, List.getElem?_eq_getElem (by rw [h2.1]; omega)]
    rfl
  have hyb := hb _ (List.mem_of_getElem? hy)
  by_cases hc : c ≤ t
  · exact window_s h hg h8 hm h2 hi hi2 hyb hy hz hc
  · by_cases hyc : c ≤ ys.getD i.toNat 0
    · exact window_a h hg h8 hm h2 hi hi2 hyb hy hz (by omega) hyc
    · exact window_n h hg h8 hm h2 hi hi2 hyb hy hz (by omega) (by omega)
/-- what was acknowledged may be -/
def whF (zs : List Fw) (ys : List Int) (k : Int) : Prop := ys.length = zs.length ∧ (1 ≤ k ∧ k ≤ 1073741824) ∧ ∀ y ∈ ys, byt y
def whB (zs : List Fw) (ys : List Int) (k : Int) : Bool := decide (ys.length = zs.length) && decide (1 ≤ k ∧ k ≤ 1073741824) && ys.all fun y => decide (byt y)
theorem whB_iff (zs : List Fw) (ys : List Int) (k : Int) : whB zs ys k = true ↔ whF zs ys k := by
  unfold whB whF
  simp [List.all_eq_true, and_assoc]
theorem whB_t {zs : List Fw} {ys : List Int} {k : Int} (h : whF zs ys k) : whB zs ys k = true := (whB_iff zs ys k).2 h
theorem whB_f {zs : List Fw} {ys : List Int} {k : Int} (h : ¬ whF zs ys k) : whB zs ys k = false := by
  cases hb : whB zs ys k with
  | true => exact absurd ((whB_iff zs ys k).1 hb) h
  | false => rfl
def UpY (ys : List Int) (q : Int) : Prop := ∀ j : Nat, (j : Int) < q → ∀ y, ys[j]? = some y → byt y
theorem UpY.next {ys : List Int} {q y : Int} (h : UpY ys q) (hq : 0 ≤ q) (hz : ys[q.toNat]? = some y) (hg : byt y) : UpY ys (q + 1) := by
  intro j hj z hz'
  by_cases e : (j : Int) = q
  · have : j = q.toNat := by omega
    subst this
    rw [hz] at hz'
    cases hz'
    exact hg
  · exact h j (by omega) z hz'
theorem UpY.all {ys : List Int} {n : Nat} (h : UpY ys n) (hl : ys.length = n) : ∀ y ∈ ys, byt y := by
  intro z hz
  obtain ⟨j, hj, rfl⟩ := List.getElem_of_mem hz
  exact h j (by omega) _ (List.getElem?_eq_getElem hj)
section
variable {w : World} {a a2 : Option Addr} {n cap n2 cap2 : Nat} {zs : List Fw} {ys : List Int}
set_option maxHeartbeats 1000000 in
theorem whole (h : Fl w a n zs) (h2 : Nu w a2 n2 ys) (m k : Int) : Calls Try.prog 32 #[.agg (rep a n cap m a2 n2 cap2 k)] w fun e w' => e = .returned (.bool (whB zs ys k)) ∧ Below w.heap.size w w' := by
  have hl := h.len
  have hl2 : ys.length = n2 := h2.1
  have hn2 : n2 ≤ 140737488355328 := h2.2.2.1
  have B0 := hidden ((Below.refl _ w).alloc (Nat.le_refl _) (.cells (rep a n cap m a2 n2 cap2 k) 57))
  by_cases e : n2 = n
  · subst e
    by_cases hk : 1 ≤ k ∧ k ≤ 1073741824
    · have WK := hidden (within_t hk)
      have H := hidden h
      have H2 := hidden h2
      have HL := hidden hl
      have HL2 := hidden hl2
      have HK := hidden hk
      clear h h2 hl hl2 hk
      go_enter Try.func32, Try.ntmps32
      go_wp2_with fail
      refine Calls.mono (WK.out _) ?_
      rintro e w1 ⟨rfl, rfl⟩
      go_wp2_with fail
      go_loopw [22] (fun i wr => ∃ q : Int, 0 ≤ q ∧ q ≤ (n2 : Int) ∧ i = .int .i64 q ∧ Hid (UpY ys q) ∧ Hid (Below w.heap.size w wr)) (fun i _ => n2 - (intOf i).toNat)
      case atStart => exact ⟨0, by omega, by omega, rfl, fun j hj => by omega, B0.out⟩
      case round =>
        clear B0
        obtain ⟨q, j1, j2, rfl, HU, HB⟩ := hrel
        by_cases hq : q < (n2 : Int)
        · obtain ⟨b, off, rfl, hb⟩ := Nu.open H2.out (by omega)
          obtain ⟨y, hz, d0⟩ := Nu.get (H2.out.later HB.out) (q := q.toNat) (by omega)
          have HZ := hidden hz
          clear hz
          by_cases g1 : byt y
          · have V1 := hidden (within_t g1)
            have HG : Hid (UpY ys (q + 1)) := HU.out.next j1 HZ.out g1
            clear g1
            go_wp2_with fail
            refine Calls.mono (V1.out _) ?_
            rintro e w1 ⟨rfl, rfl⟩
            go_wp2
            go_roundw
            case rel => exact ⟨q + 1, by omega, by omega, rfl, HG.out, HB.out⟩
            case measure => simp [intOf]; omega
          · have V1 := hidden (within_f g1)
            have HG : Hid (whB zs ys k = false) := whB_f fun h => g1 (h.2.2 y (List.mem_of_getElem? HZ.out))
            clear g1
            go_wp2_with fail
            refine Calls.mono (V1.out _) ?_
            rintro e w1 ⟨rfl, rfl⟩
            go_wp2
            go_ret
            exact ⟨by rw [HG.out]; rfl, HB.out⟩
        · obtain rfl : q = (n2 : Int) := by omega
          have HG : Hid (whB zs ys k = true) := whB_t ⟨by rw [HL.out, HL2.out], HK.out, HU.out.all HL2.out⟩
          go_wp2
          go_ret
          exact ⟨by rw [HG.out]; rfl, HB.out⟩
    · have WK := hidden (within_f hk)
      have HG : Hid (whB zs ys k = false) := whB_f fun h => hk h.2.1
      clear h h2 hl hl2 hk
      go_enter Try.func32, Try.ntmps32
      go_wp2_with fail
      refine Calls.mono (WK.out _) ?_
      rintro e w1 ⟨rfl, rfl⟩
      go_wp2
      go_ret
      exact ⟨by rw [HG.out]; rfl, B0.out⟩
  · have HG : Hid (whB zs ys k = false) := whB_f fun h => e (by have := h.1; omega)
    have e1 : ¬ ((n2 : Int) = (n : Int)) := by omega
    clear h h2 hl hl2 e
    go_enter Try.func32, Try.ntmps32
    go_wp2
    go_ret
    exact ⟨by rw [HG.out]; rfl, B0.out⟩
end
/-- cells of a row -/
def fc (zs : List Fw) : List Value := zs.flatMap fun z => [.int .i64 z.1, .int .i64 z.2]
theorem fc_len : ∀ zs : List Fw, (fc zs).length = zs.length * 2
  | [] => rfl
  | z :: l => by
    have := fc_len l
    unfold fc at *
    simp only [List.flatMap_cons, List.length_append, this, List.length_cons, List.length_nil]
    omega
theorem fc_c : ∀ (zs : List Fw) (j : Nat) {c t : Int}, zs[j]? = some (c, t) → (fc zs)[j * 2]? = some (.int .i64 c) ∧ (fc zs)[j * 2 + 1]? = some (.int .i64 t)
  | z :: l, 0, c, t, h => by
    simp at h
    subst h
    exact ⟨rfl, rfl⟩
  | z :: l, j + 1, c, t, h => by
    have := fc_c l j (c := c) (t := t) (by simpa using h)
    unfold fc at *
    rw [show (j + 1) * 2 = j * 2 + 1 + 1 by omega]
    simpa using this
theorem fc_one (zs : List Fw) : ∀ u ∈ fc zs, u.oneCell' = true := by
  intro u hu
  obtain ⟨z, _, hz⟩ := List.mem_flatMap.1 hu
  rcases List.mem_cons.1 hz with rfl | hz
  · rfl
  · rcases List.mem_cons.1 hz with rfl | hz
    · rfl
    · cases hz
theorem fc_set : ∀ (zs : List Fw) (j : Nat) {c t : Int} (x : Int), zs[j]? = some (c, t) → (fc zs).set (j * 2) (.int .i64 x) = fc (zs.set j (x, t))
  | z :: l, 0, c, t, x, h => by
    simp at h
    subst h
    rfl
  | z :: l, j + 1, c, t, x, h => by
    have := fc_set l j (c := c) (t := t) x (by simpa using h)
    unfold fc at *
    rw [show (j + 1) * 2 = j * 2 + 1 + 1 by omega]
    simpa using this
theorem Fl.news {w : World} {b off n : Nat} {zs : List Fw} (h : Fl w (some ⟨b, off, none⟩) n zs) : ∀ j u, (fc zs)[j]? = some u → w.cell? ((⟨b, off, none⟩ : Addr).add j) = some u := by
  intro j u hj
  have hjl := (List.getElem?_eq_some_iff.1 hj).1
  rw [fc_len] at hjl
  have hl := h.len
  obtain ⟨c, t, hz, d0, d1⟩ := Fl.get h (q := j / 2) (by omega)
  obtain ⟨f0, f1⟩ := fc_c zs (j / 2) hz
  rw [Go.WideShapes.add_plain]
  rcases Nat.mod_two_eq_zero_or_one j with h0 | h0
  · rw [show j / 2 * 2 = j by omega] at f0 d0
    rw [hj] at f0
    cases f0
    exact d0
  · rw [show j / 2 * 2 + 1 = j by omega] at f1
    rw [show off + j / 2 * 2 + 1 = off + j by omega] at d1
    rw [hj] at f1
    cases f1
    exact d1
theorem infoF : (Try.prog.info? 43).map (fun i => (i.zero, i.size, i.bytes)) = some (some (.agg #[.int .i64 0, .int .i64 0]), 2, 16) := by kernel_rfl
theorem clone {w : World} {b off n cap : Nat} {zs : List Fw} (h : Fl w (some ⟨b, off, none⟩) n zs) (h8 : n ≤ 8) :
    Calls Try.prog 33 #[.slice (some ⟨b, off, none⟩) n cap] w fun e w' => ∃ v, e = .returned v ∧ w'.ownsRow w.heap.size 43 2 v n (fc zs) ∧ Below w.heap.size w w' := by
  obtain ⟨i0, hi, hz0, hz1, hz2⟩ := info_parts infoF
  have hen : ∀ (x : Option Addr) (n c : Nat) (w : World), (binOp .eql 22 (.slice x n c) (.slice none 0 0)).run Try.prog w = .ok (.bool x.isNone) w := fun x n c w => Lib.run_eql_slice_nil w 22 43 x n c 0 0 Try.underlying22
  have hb := (Below.refl _ w).alloc (Nat.le_refl _) (.cells #[] 43)
  have HNW := hidden (Fl.news (h.later hb))
  have HO := hidden (show (w.alloc (.cells #[] 43)).ownsRow w.heap.size 43 2 (.slice (some ⟨w.heap.size, 0, none⟩) 0 0) 0 [] from World.ownsRow_lit w #[] 0 (Nat.le_refl _) (Nat.zero_le _) rfl)
  have HB := hidden hb
  have HL : Hid ((fc zs).length = n * 2) := by
    show (fc zs).length = n * 2
    rw [fc_len, h.len]
  have H1 := hidden (fc_one zs)
  clear h hb
  go_enter Try.func33, Try.ntmps33
  go_wp2_with (first | (at_builtin; refine wpList_append_own _ rfl (.tmp 5) _ 22 rfl w.heap.size 43 i0 (.agg #[.int .i64 0, .int .i64 0]) 2 16 Try.underlying22 hi hz0 hz1 hz2 rfl (by decide) _ _ _ rfl HO.out ⟨b, off, none⟩ n cap (fc zs) rfl HL.out HNW.out H1.out ?c3 ?c4 (by simp) ?_) | go_in)
  case c3 => unfold maxLen; omega
  case c4 => omega
  intro v' w1 hown1 hgrow _
  try simp only [Nat.zero_add, List.nil_append] at hown1
  have HOW := hidden hown1
  have HBF := hidden (HB.out.grown hgrow (by simp) (fun q hq => by cases hq; exact Nat.le_refl _))
  clear hown1 hgrow
  go_wp2
  go_ret
  exact ⟨v', rfl, HOW.out, HBF.out⟩
end Go.Proofs.Ytbcdoilfmfckiaa.Co
