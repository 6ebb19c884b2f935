/-
  Windows of several paths: the document's answers of one of them.
  Conditions: as at each lemma.
-/
import Derived.Test.YtbcdoilfmfckiaaCoC
namespace Go.Proofs.Ytbcdoilfmfckiaa.Co
open Go.ChangeShapes Go.WideShapes Go.ChangeAt Go.RowKit
open Ba (hidden Has Only)
open Ow (Own)
set_option linter.unusedVariables false

theorem rWindow (n : Int) (w : World) : Calls Try.prog 28 #[.int .i64 n] w fun e w' => e = .returned (.bool (decide (1 ≤ n ∧ n ≤ 1073741824))) ∧ w = w' := by
  by_cases h1 : 1 ≤ n
  · by_cases h2 : n ≤ 1073741824
    · have hd : decide (1 ≤ n ∧ n ≤ 1073741824) = true := decide_eq_true ⟨h1, h2⟩
      rw [hd]
      clear hd
      go_enter Try.func28, Try.ntmps28
      go_wp2
      go_ret
      exact ⟨rfl, rfl⟩
    · have hd : decide (1 ≤ n ∧ n ≤ 1073741824) = false := decide_eq_false fun h => h2 h.2
      rw [hd]
      clear hd
      go_enter Try.func28, Try.ntmps28
      go_wp2
      go_ret
      exact ⟨rfl, rfl⟩
  · have hd : decide (1 ≤ n ∧ n ≤ 1073741824) = false := decide_eq_false fun h => h1 h.1
    rw [hd]
    clear hd
    go_enter Try.func28, Try.ntmps28
    go_wp2
    go_ret
    exact ⟨rfl, rfl⟩
theorem rWindow_t {n : Int} (h : 1 ≤ n ∧ n ≤ 1073741824) (w : World) : Calls Try.prog 28 #[.int .i64 n] w fun e w' => e = .returned (.bool true) ∧ w = w' := by
  have := rWindow n w
  rwa [decide_eq_true h] at this
theorem rWindow_f {n : Int} (h : ¬ (1 ≤ n ∧ n ≤ 1073741824)) (w : World) : Calls Try.prog 28 #[.int .i64 n] w fun e w' => e = .returned (.bool false) ∧ w = w' := by
  have := rWindow n w
  rwa [decide_eq_false h] at this
theorem rBytes (n : Int) (w : World) : Calls Try.prog 35 #[.int .i64 n] w fun e w' => e = .returned (.bool (decide (0 ≤ n ∧ n ≤ 1073741824))) ∧ w = w' := by
  by_cases h1 : 0 ≤ n
  · by_cases h2 : n ≤ 1073741824
    · have hd : decide (0 ≤ n ∧ n ≤ 1073741824) = true := decide_eq_true ⟨h1, h2⟩
      rw [hd]
      clear hd
      go_enter Try.func35, Try.ntmps35
      go_wp2
      go_ret
      exact ⟨rfl, rfl⟩
    · have hd : decide (0 ≤ n ∧ n ≤ 1073741824) = false := decide_eq_false fun h => h2 h.2
      rw [hd]
      clear hd
      go_enter Try.func35, Try.ntmps35
      go_wp2
      go_ret
      exact ⟨rfl, rfl⟩
  · have hd : decide (0 ≤ n ∧ n ≤ 1073741824) = false := decide_eq_false fun h => h1 h.1
    rw [hd]
    clear hd
    go_enter Try.func35, Try.ntmps35
    go_wp2
    go_ret
    exact ⟨rfl, rfl⟩
theorem rBytes_t {n : Int} (h : 0 ≤ n ∧ n ≤ 1073741824) (w : World) : Calls Try.prog 35 #[.int .i64 n] w fun e w' => e = .returned (.bool true) ∧ w = w' := by
  have := rBytes n w
  rwa [decide_eq_true h] at this
theorem rBytes_f {n : Int} (h : ¬ (0 ≤ n ∧ n ≤ 1073741824)) (w : World) : Calls Try.prog 35 #[.int .i64 n] w fun e w' => e = .returned (.bool false) ∧ w = w' := by
  have := rBytes n w
  rwa [decide_eq_false h] at this
section
variable {w : World} {a : Option Addr} {n cap : Nat} {zs : List Fw}
set_option maxHeartbeats 1000000 in
theorem rCheck (h : Fl w a n zs) (m : Int) : Calls Try.prog 12 #[.slice a n cap, .int .i64 m] w fun e w' => e = .returned (.int .i64 (chk zs m)) ∧ Below w.heap.size w w' := by
  have hl := h.len
  have hn : n ≤ 140737488355328 := h.2.2.1
  by_cases h1 : (1 : Int) ≤ n ∧ (n : Int) ≤ 8
  · by_cases h2 : 1 ≤ m ∧ m ≤ 65536
    · obtain ⟨b, off, rfl, hb⟩ := Fl.open h (by omega)
      obtain ⟨p1, p2⟩ := h1
      obtain ⟨m1, m2⟩ := h2
      have H := hidden h
      have HL := hidden hl
      clear h hl
      go_enter Try.func12, Try.ntmps12
      go_wp2_with fail
      go_loopw [5] (fun i wr => ∃ q : Int, 0 ≤ q ∧ q ≤ (n : Int) ∧ i = .int .i64 q ∧ Hid (Up zs q) ∧ wr = w) (fun i _ => n - (intOf i).toNat)
      case atStart => exact ⟨0, by omega, by omega, rfl, fun j hj => by omega, rfl⟩
      case round =>
        obtain ⟨q, j1, j2, rfl, HU, rfl⟩ := hrel
        by_cases hq : q < (n : Int)
        · obtain ⟨c, t, hz, d0, d1⟩ := Fl.get H.out (q := q.toNat) (by omega)
          have HZ := hidden hz
          clear hz
          by_cases g1 : 1 ≤ c ∧ c ≤ 1073741824
          · have V1 := hidden (rWindow_t g1)
            by_cases g2 : 1 ≤ t ∧ t ≤ 1073741824
            · have V2 := hidden (rWindow_t g2)
              have HG : Hid (Up zs (q + 1)) := HU.out.next j1 HZ.out ⟨g1, g2⟩
              clear g1 g2
              go_wp2_with fail
              refine Calls.mono (V1.out _) ?_
              rintro e w1 ⟨rfl, rfl⟩
              go_wp2_with fail
              refine Calls.mono (V2.out _) ?_
              rintro e w1 ⟨rfl, rfl⟩
              go_wp2
              go_roundw
              case rel => exact ⟨q + 1, by omega, by omega, rfl, HG.out, by trivial⟩
              case measure => simp [intOf]; omega
            · have V2 := hidden (rWindow_f g2)
              have HG : Hid (chk zs m = 130) := chk_no fun h => g2 (h.2.2 (c, t) (List.mem_of_getElem? HZ.out)).2
              clear g1 g2
              go_wp2_with fail
              refine Calls.mono (V1.out _) ?_
              rintro e w1 ⟨rfl, rfl⟩
              go_wp2_with fail
              refine Calls.mono (V2.out _) ?_
              rintro e w1 ⟨rfl, rfl⟩
              go_wp2
              go_ret
              exact ⟨by rw [HG.out]; rfl, Below.refl _ _⟩
          · have V1 := hidden (rWindow_f g1)
            have HG : Hid (chk zs m = 130) := chk_no fun h => g1 (h.2.2 (c, t) (List.mem_of_getElem? HZ.out)).1
            clear g1
            go_wp2_with fail
            refine Calls.mono (V1.out _) ?_
            rintro e w1 ⟨rfl, rfl⟩
            go_wp2
            go_ret
            exact ⟨by rw [HG.out]; rfl, Below.refl _ _⟩
        · obtain rfl : q = (n : Int) := by omega
          have HG : Hid (chk zs m = 0) := chk_ok ⟨by have := HL.out; omega, ⟨m1, m2⟩, HU.out.all HL.out⟩
          go_wp2
          go_ret
          exact ⟨by rw [HG.out]; rfl, Below.refl _ _⟩
    · have HG : Hid (chk zs m = 130) := chk_no fun h => h2 h.2.1
      clear h hl
      obtain ⟨p1, p2⟩ := h1
      by_cases m1 : m < 1
      · clear h2
        go_enter Try.func12, Try.ntmps12
        go_wp2
        go_ret
        exact ⟨by rw [HG.out]; rfl, Below.refl _ _⟩
      · have m2 : 65536 < m := by omega
        clear h2
        go_enter Try.func12, Try.ntmps12
        go_wp2
        go_ret
        exact ⟨by rw [HG.out]; rfl, Below.refl _ _⟩
  · have HG : Hid (chk zs m = 130) := chk_no fun h => h1 (by have := h.1; omega)
    clear h hl
    by_cases p1 : (n : Int) < 1
    · clear h1
      go_enter Try.func12, Try.ntmps12
      go_wp2
      go_ret
      exact ⟨by rw [HG.out]; rfl, Below.refl _ _⟩
    · have p2 : 8 < (n : Int) := by omega
      clear h1
      go_enter Try.func12, Try.ntmps12
      go_wp2
      go_ret
      exact ⟨by rw [HG.out]; rfl, Below.refl _ _⟩
set_option maxHeartbeats 1000000 in
theorem rshare (h : Fl w a n zs) (hg : ∀ z ∈ zs, good z) (h8 : n ≤ 8) {i : Int} (hi : 0 ≤ i ∧ i < n) {x : Int} (hx : 0 ≤ x ∧ x ≤ 1073741824) : Calls Try.prog 26 #[.slice a n cap, .int .i64 i, .int .i64 x] w fun e w' => e = .returned (.int .i64 (share zs i.toNat x)) ∧ Below w.heap.size w w' := by
  obtain ⟨b, off, rfl, hb⟩ := Fl.open h (by omega)
  obtain ⟨ci, ti, hzi, d0i, d1i⟩ := Fl.get h (q := i.toNat) (by omega)
  have hgt : good (ci, ti) := hg _ (List.mem_of_getElem? hzi)
  obtain ⟨hc1, ht1⟩ := hgt
  simp only at ht1
  have hS : 1 ≤ sumT zs := by
    have := (sT_in hg zs.length (Nat.le_refl _)).1
    have := h.len
    unfold sumT
    omega
  have hp := prod_in hx ht1
  have hw0 : IntKind.i64.wrap (x * ti) = x * ti := by rw [IntKind.wrap_i64]; omega
  have hv : IntKind.i64.wrap ((x * ti).tdiv (sumT zs)) = share zs i.toNat x := (quot hp hS).trans (share_at hzi x).symm
  have HST : Hid (sT zs n = sumT zs) := by
    show sT zs n = sumT zs
    unfold sumT
    rw [h.len]
  generalize share zs i.toNat x = V at *
  have H := hidden h
  have HL := hidden h.len
  have HG := hidden hg
  obtain ⟨hi1, hi2⟩ := hi
  have hS0 : ¬ sumT zs = 0 := by omega
  clear h hg hzi hc1 ht1 hp hx d0i
  go_enter Try.func26, Try.ntmps26
  go_wp2_with fail
  go_loopw [7, 8] (fun s j wr => ∃ q x : Int, 0 ≤ q ∧ q ≤ (n : Int) ∧ j = .int .i64 q ∧ s = .int .i64 x ∧ Hid (x = sT zs q.toNat) ∧ wr = w) (fun _ j _ => n - (intOf j).toNat)
  case atStart => exact ⟨0, 0, by omega, by omega, rfl, rfl, rfl, rfl⟩
  case round =>
    obtain ⟨q, y, j1, j2, rfl, rfl, HX, rfl⟩ := hrel
    by_cases hq : q < (n : Int)
    · obtain ⟨c, t, hz, d0, d1⟩ := Fl.get H.out (q := q.toNat) (by omega)
      have hs := sT_in HG.out q.toNat (by have := HL.out; omega)
      rw [← HX.out] at hs
      have hgt := HG.out _ (List.mem_of_getElem? hz)
      simp only [good] at hgt
      have hw : IntKind.i64.wrap (y + t) = y + t := by rw [IntKind.wrap_i64]; omega
      have HN : Hid (y + t = sT zs (q + 1).toNat) := by
        show y + t = sT zs (q + 1).toNat
        rw [show (q + 1).toNat = q.toNat + 1 by omega, sT_next hz, HX.out]
      clear hz hs hgt hw0 hv
      go_wp2
      go_roundw
      case rel => exact ⟨q + 1, y + t, by omega, by omega, rfl, by first | rfl | simp [hw], HN.out, by trivial⟩
      case measure => simp [intOf]; omega
    · obtain rfl : q = (n : Int) := by omega
      obtain rfl : y = sumT zs := by rw [HX.out, ← HST.out]; rfl
      clear HX HST
      generalize sumT zs = S at *
      go_wp2
      go_ret
      exact ⟨rfl, Below.refl _ _⟩
theorem wrong (h : Fl w a n zs) (i m y : Int) : Calls Try.prog 25 #[.slice a n cap, .int .i64 i, .int .i64 m, .int .i64 y] w fun e w' => e = .returned (.int .i64 (er zs m i y)) ∧ Below w.heap.size w w' := by
  have hl := h.len
  have hn : n ≤ 140737488355328 := h.2.2.1
  have CK := hidden (rCheck (cap := cap) h m)
  by_cases hk : okF zs m
  · rw [chk_ok hk] at CK
    by_cases hi : 0 ≤ i ∧ i < n
    · by_cases hy : 0 ≤ y ∧ y ≤ 1073741824
      · have HE := hidden (er_ok hk (by rw [hl]; exact hi) hy)
        have WB := hidden (rBytes_t hy)
        obtain ⟨hi1, hi2⟩ := hi
        clear h hl hk hy
        go_enter Try.func25, Try.ntmps25
        go_wp2_with fail
        refine Calls.mono CK.out ?_
        rintro e w1 ⟨rfl, hB⟩
        have HB := hidden hB
        clear hB CK
        go_wp2_with fail
        refine Calls.mono (WB.out _) ?_
        rintro e w2 ⟨rfl, rfl⟩
        go_wp2
        go_ret
        exact ⟨by rw [HE.out]; rfl, HB.out⟩
      · have HE := hidden (er_arg hk (by rw [hl]; exact hi) hy)
        have WB := hidden (rBytes_f hy)
        obtain ⟨hi1, hi2⟩ := hi
        clear h hl hk hy
        go_enter Try.func25, Try.ntmps25
        go_wp2_with fail
        refine Calls.mono CK.out ?_
        rintro e w1 ⟨rfl, hB⟩
        have HB := hidden hB
        clear hB CK
        go_wp2_with fail
        refine Calls.mono (WB.out _) ?_
        rintro e w2 ⟨rfl, rfl⟩
        go_wp2
        go_ret
        exact ⟨by rw [HE.out]; rfl, HB.out⟩
    · have HE := hidden (er_range hk (by rw [hl]; exact hi) y)
      clear h hl hk
      by_cases i1 : i < 0
      · clear hi
        go_enter Try.func25, Try.ntmps25
        go_wp2_with fail
        refine Calls.mono CK.out ?_
        rintro e w1 ⟨rfl, hB⟩
        have HB := hidden hB
        clear hB CK
        go_wp2
        go_ret
        exact ⟨by rw [HE.out]; rfl, HB.out⟩
      · have i2 : (n : Int) ≤ i := by omega
        clear hi
        go_enter Try.func25, Try.ntmps25
        go_wp2_with fail
        refine Calls.mono CK.out ?_
        rintro e w1 ⟨rfl, hB⟩
        have HB := hidden hB
        clear hB CK
        go_wp2
        go_ret
        exact ⟨by rw [HE.out]; rfl, HB.out⟩
  · rw [chk_no hk] at CK
    have HE := hidden (er_no hk i y)
    clear h hl hk
    go_enter Try.func25, Try.ntmps25
    go_wp2_with fail
    refine Calls.mono CK.out ?_
    rintro e w1 ⟨rfl, hB⟩
    have HB := hidden hB
    clear hB CK
    go_wp2
    go_ret
    exact ⟨by rw [HE.out]; rfl, HB.out⟩
theorem er_zero {m i y : Int} (h : er zs m i y = 0) : okF zs m ∧ (0 ≤ i ∧ i < zs.length) ∧ (0 ≤ y ∧ y ≤ 1073741824) := by
  by_cases hk : okF zs m
  · by_cases hi : 0 ≤ i ∧ i < zs.length
    · by_cases hy : 0 ≤ y ∧ y ≤ 1073741824
      · exact ⟨hk, hi, hy⟩
      · rw [er_arg hk hi hy] at h
        exact absurd h (by decide)
    · rw [er_range hk hi y] at h
      exact absurd h (by decide)
  · rw [er_no hk i y] at h
    exact absurd h (by decide)
theorem va_no {e : Int} (h : ¬ e = 0) (v : Int) : va e v = 0 := by unfold va; rw [if_neg h]
theorem rShare (h : Fl w a n zs) (i y : Int) : Calls Try.prog 10 #[.slice a n cap, .int .i64 i, .int .i64 y] w fun e w' => e = .returned (.tuple #[.int .i64 (va (er zs 1 i y) (share zs i.toNat y)), .int .i64 (er zs 1 i y)]) ∧ Below w.heap.size w w' := by
  have hl := h.len
  have WR := hidden (wrong (cap := cap) h i 1 y)
  by_cases he : er zs 1 i y = 0
  · obtain ⟨hk, hi, hy⟩ := er_zero he
    have SH : Hid (∀ X, Below w.heap.size w X → Calls Try.prog 26 #[.slice a n cap, .int .i64 i, .int .i64 y] X fun e w' => e = .returned (.int .i64 (share zs i.toNat y)) ∧ Below X.heap.size X w') := fun X hX => rshare (h.later hX) hk.2.2 (by rw [← hl]; exact hk.1.2) (by rw [← hl]; exact hi) hy
    rw [he, va_0]
    rw [he] at WR
    generalize share zs i.toNat y = V at *
    clear h hl he hk hi hy
    go_enter Try.func10, Try.ntmps10
    go_wp2_with fail
    refine Calls.mono WR.out ?_
    rintro e w1 ⟨rfl, hB⟩
    have HB := hidden hB
    clear hB WR
    go_wp2_with fail
    refine Calls.mono (SH.out _ HB.out) ?_
    rintro e w2 ⟨rfl, hB⟩
    have HB2 := hidden (HB.out.trans (hB.mono HB.out.size))
    clear hB
    go_wp2
    go_ret2
    exact ⟨rfl, HB2.out⟩
  · rw [va_no he]
    generalize er zs 1 i y = E at *
    clear h hl
    go_enter Try.func10, Try.ntmps10
    go_wp2_with fail
    refine Calls.mono WR.out ?_
    rintro e w1 ⟨rfl, hB⟩
    have HB := hidden hB
    clear hB WR
    go_wp2
    go_ret2
    exact ⟨rfl, HB.out⟩
theorem rAvoid (h : Fl w a n zs) (i m : Int) : Calls Try.prog 17 #[.slice a n cap, .int .i64 i, .int .i64 m] w fun e w' => e = .returned (.tuple #[.int .i64 (va (er zs m i 0) (share zs i.toNat m)), .int .i64 (er zs m i 0)]) ∧ Below w.heap.size w w' := by
  have hl := h.len
  have WR := hidden (wrong (cap := cap) h i m 0)
  by_cases he : er zs m i 0 = 0
  · obtain ⟨hk, hi, hy⟩ := er_zero he
    have SH : Hid (∀ X, Below w.heap.size w X → Calls Try.prog 26 #[.slice a n cap, .int .i64 i, .int .i64 m] X fun e w' => e = .returned (.int .i64 (share zs i.toNat m)) ∧ Below X.heap.size X w') := fun X hX => rshare (h.later hX) hk.2.2 (by rw [← hl]; exact hk.1.2) (by rw [← hl]; exact hi) (by have := hk.2.1; omega)
    rw [he, va_0]
    rw [he] at WR
    generalize share zs i.toNat m = V at *
    clear h hl he hk hi hy
    go_enter Try.func17, Try.ntmps17
    go_wp2_with fail
    refine Calls.mono WR.out ?_
    rintro e w1 ⟨rfl, hB⟩
    have HB := hidden hB
    clear hB WR
    go_wp2_with fail
    refine Calls.mono (SH.out _ HB.out) ?_
    rintro e w2 ⟨rfl, hB⟩
    have HB2 := hidden (HB.out.trans (hB.mono HB.out.size))
    clear hB
    go_wp2
    go_ret2
    exact ⟨rfl, HB2.out⟩
  · rw [va_no he]
    generalize er zs m i 0 = E at *
    clear h hl
    go_enter Try.func17, Try.ntmps17
    go_wp2_with fail
    refine Calls.mono WR.out ?_
    rintro e w1 ⟨rfl, hB⟩
    have HB := hidden hB
    clear hB WR
    go_wp2
    go_ret2
    exact ⟨rfl, HB.out⟩
theorem rSlow (h : Fl w a n zs) (i y m : Int) : Calls Try.prog 15 #[.slice a n cap, .int .i64 i, .int .i64 y, .int .i64 m] w fun e w' => e = .returned (.tuple #[.int .i64 (va (er zs m i y) (share zs i.toNat (min y m))), .int .i64 (er zs m i y)]) ∧ Below w.heap.size w w' := by
  have hl := h.len
  have WR := hidden (wrong (cap := cap) h i m y)
  by_cases he : er zs m i y = 0
  · obtain ⟨hk, hi, hy⟩ := er_zero he
    rw [he, va_0]
    rw [he] at WR
    by_cases hc : m < y
    · have hc' := hc
      have SH : Hid (∀ X, Below w.heap.size w X → Calls Try.prog 26 #[.slice a n cap, .int .i64 i, .int .i64 m] X fun e w' => e = .returned (.int .i64 (share zs i.toNat (min y m))) ∧ Below X.heap.size X w') := fun X hX => by
        have := rshare (cap := cap) (h.later hX) hk.2.2 (by rw [← hl]; exact hk.1.2) (i := i) (by rw [← hl]; exact hi) (x := min y m) (by have := hk.2.1; omega)
        rw [show min y m = m by omega] at this ⊢
        exact this
      generalize share zs i.toNat (min y m) = V at *
      clear h hl he hk hi hy
      go_enter Try.func15, Try.ntmps15
      go_wp2_with fail
      refine Calls.mono WR.out ?_
      rintro e w1 ⟨rfl, hB⟩
      have HB := hidden hB
      clear hB WR
      go_wp2_with fail
      refine Calls.mono (SH.out _ HB.out) ?_
      rintro e w2 ⟨rfl, hB⟩
      have HB2 := hidden (HB.out.trans (hB.mono HB.out.size))
      clear hB
      go_wp2
      go_ret2
      exact ⟨rfl, HB2.out⟩
    · have hc' : y ≤ m := by omega
      have SH : Hid (∀ X, Below w.heap.size w X → Calls Try.prog 26 #[.slice a n cap, .int .i64 i, .int .i64 y] X fun e w' => e = .returned (.int .i64 (share zs i.toNat (min y m))) ∧ Below X.heap.size X w') := fun X hX => by
        have := rshare (cap := cap) (h.later hX) hk.2.2 (by rw [← hl]; exact hk.1.2) (i := i) (by rw [← hl]; exact hi) (x := min y m) (by have := hk.2.1; omega)
        rw [show min y m = y by omega] at this ⊢
        exact this
      generalize share zs i.toNat (min y m) = V at *
      clear h hl he hk hi hy
      go_enter Try.func15, Try.ntmps15
      go_wp2_with fail
      refine Calls.mono WR.out ?_
      rintro e w1 ⟨rfl, hB⟩
      have HB := hidden hB
      clear hB WR
      go_wp2_with fail
      refine Calls.mono (SH.out _ HB.out) ?_
      rintro e w2 ⟨rfl, hB⟩
      have HB2 := hidden (HB.out.trans (hB.mono HB.out.size))
      clear hB
      go_wp2
      go_ret2
      exact ⟨rfl, HB2.out⟩
  · rw [va_no he]
    generalize er zs m i y = E at *
    clear h hl
    go_enter Try.func15, Try.ntmps15
    go_wp2_with fail
    refine Calls.mono WR.out ?_
    rintro e w1 ⟨rfl, hB⟩
    have HB := hidden hB
    clear hB WR
    go_wp2
    go_ret2
    exact ⟨rfl, HB.out⟩
set_option maxHeartbeats 4000000 in
theorem rCut0 (h : Fl w a n zs) {m : Int} (hk : okF zs m) {i : Int} (hi : 0 ≤ i ∧ i < n) : Calls Try.prog 19 #[.slice a n cap, .int .i64 i, .int .i64 m] w fun e w' => e = .returned (.tuple #[.int .i64 (cutV zs i.toNat m), .int .i64 0]) ∧ Below w.heap.size w w' := by
  have hl := h.len
  have h8 : n ≤ 8 := by rw [← hl]; exact hk.1.2
  have WR := hidden (wrong (cap := cap) h i m 0)
  rw [er_ok hk (by rw [hl]; exact hi) (by decide)] at WR
  obtain ⟨b, off, rfl, hb⟩ := Fl.open h (by omega)
  obtain ⟨ci, ti, hzi, d0i, d1i⟩ := Fl.get h (q := i.toNat) (by omega)
  have hgt := hk.2.2 _ (List.mem_of_getElem? hzi)
  simp only [good] at hgt
  have hS : 0 ≤ sumC zs ∧ sumC zs ≤ 8589934592 := by
    have := sC_in hk.2.2 zs.length (Nat.le_refl _)
    unfold sumC
    omega
  have hm := hk.2.1
  have hw1 : IntKind.i64.wrap ((sumC zs).tdiv 2) = sumC zs / 2 := by rw [Int.tdiv_eq_ediv_of_nonneg hS.1, IntKind.wrap_i64]; omega
  obtain ⟨D, hD⟩ : ∃ D, ci - sumC zs / 2 = D := ⟨_, rfl⟩
  have hw2 : IntKind.i64.wrap (ci - sumC zs / 2) = D := by rw [← hD, IntKind.wrap_i64]; omega
  have hw3 : IntKind.i64.wrap (4 * m) = 4 * m := by rw [IntKind.wrap_i64]; omega
  have HST : Hid (sC zs n = sumC zs) := by
    show sC zs n = sumC zs
    unfold sumC
    rw [h.len]
  have HV : Hid (cutV zs i.toNat m = max (max D (share zs i.toNat (4 * m))) m) := by
    show cutV zs i.toNat m = max (max D (share zs i.toNat (4 * m))) m
    unfold cutV
    rw [List.getD_eq_getElem?_getD, hzi, ← hD]
    rfl
  have SG : Hid (∀ X, Below w.heap.size w X → Calls Try.prog 26 #[.slice (some ⟨b, off, none⟩) n cap, .int .i64 i, .int .i64 (4 * m)] X fun e w' => e = .returned (.int .i64 (share zs i.toNat (4 * m))) ∧ Below w.heap.size w w') := fun X hX => (rshare (h.later hX) hk.2.2 h8 hi (by omega)).mono (by rintro e w' ⟨rfl, hB⟩; exact ⟨rfl, hX.trans (hB.mono hX.size)⟩)
  generalize cutV zs i.toNat m = R at *
  generalize share zs i.toNat (4 * m) = V at *
  have H := hidden h
  have HL := hidden hl
  have HG := hidden hk.2.2
  obtain ⟨hi1, hi2⟩ := hi
  clear h hzi hgt hm hS d1i hk hl hD
  go_enter Try.func19, Try.ntmps19
  go_wp2_with fail
  refine Calls.mono WR.out ?_
  rintro e w1 ⟨rfl, hB⟩
  have HB1 := hidden hB
  have d0 := (hB.cell (p := ⟨b, off + i.toNat * 2, none⟩) hb).trans d0i
  clear hB WR d0i
  go_wp2_with fail
  go_loopw [9, 10] (fun s j wr => ∃ q x : Int, 0 ≤ q ∧ q ≤ (n : Int) ∧ j = .int .i64 q ∧ s = .int .i64 x ∧ Hid (x = sC zs q.toNat) ∧ wr = w1) (fun _ j _ => n - (intOf j).toNat)
  case atStart => exact ⟨0, 0, by omega, by omega, rfl, rfl, rfl, rfl⟩
  case round =>
    obtain ⟨q, y, j1, j2, rfl, rfl, HX, rfl⟩ := hrel
    by_cases hq : q < (n : Int)
    · obtain ⟨c, t, hz, d0', d1⟩ := Fl.get (H.out.later HB1.out) (q := q.toNat) (by omega)
      have hs := sC_in HG.out q.toNat (by have := HL.out; omega)
      rw [← HX.out] at hs
      have hgt := HG.out _ (List.mem_of_getElem? hz)
      simp only [good] at hgt
      have hw : IntKind.i64.wrap (y + c) = y + c := by rw [IntKind.wrap_i64]; omega
      have HN : Hid (y + c = sC zs (q + 1).toNat) := by
        show y + c = sC zs (q + 1).toNat
        rw [show (q + 1).toNat = q.toNat + 1 by omega, sC_next hz, HX.out]
      clear hz hs hgt hw1 hw2 hw3 d0
      go_wp2
      go_roundw
      case rel => exact ⟨q + 1, y + c, by omega, by omega, rfl, by first | rfl | simp [hw], HN.out, by trivial⟩
      case measure => simp [intOf]; omega
    · obtain rfl : q = (n : Int) := by omega
      obtain rfl : y = sumC zs := by rw [HX.out, ← HST.out]; rfl
      clear HX HST HG HL H
      generalize sumC zs = S at *
      by_cases hv : D < V
      · by_cases hm : V < m
        · go_wp2_with fail
          refine Calls.mono (SG.out _ HB1.out) ?_
          rintro e w2 ⟨rfl, hB⟩
          have HB2 := hidden hB
          clear hB
          go_wp2_with fail
          refine Calls.mono (SG.out _ HB2.out) ?_
          rintro e w3 ⟨rfl, hB⟩
          have HB3 := hidden hB
          clear hB
          go_wp2
          go_ret2
          exact ⟨by rw [show R = m by rw [HV.out]; omega]; rfl, HB3.out⟩
        · go_wp2_with fail
          refine Calls.mono (SG.out _ HB1.out) ?_
          rintro e w2 ⟨rfl, hB⟩
          have HB2 := hidden hB
          clear hB
          go_wp2_with fail
          refine Calls.mono (SG.out _ HB2.out) ?_
          rintro e w3 ⟨rfl, hB⟩
          have HB3 := hidden hB
          clear hB
          go_wp2
          go_ret2
          exact ⟨by rw [show R = V by rw [HV.out]; omega]; rfl, HB3.out⟩
      · by_cases hm : D < m
        · go_wp2_with fail
          refine Calls.mono (SG.out _ HB1.out) ?_
          rintro e w2 ⟨rfl, hB⟩
          have HB2 := hidden hB
          clear hB
          go_wp2
          go_ret2
          exact ⟨by rw [show R = m by rw [HV.out]; omega]; rfl, HB2.out⟩
        · go_wp2_with fail
          refine Calls.mono (SG.out _ HB1.out) ?_
          rintro e w2 ⟨rfl, hB⟩
          have HB2 := hidden hB
          clear hB
          go_wp2
          go_ret2
          exact ⟨by rw [show R = D by rw [HV.out]; omega]; rfl, HB2.out⟩
theorem rCut (h : Fl w a n zs) (i m : Int) : Calls Try.prog 19 #[.slice a n cap, .int .i64 i, .int .i64 m] w fun e w' => e = .returned (.tuple #[.int .i64 (va (er zs m i 0) (cutV zs i.toNat m)), .int .i64 (er zs m i 0)]) ∧ Below w.heap.size w w' := by
  have hl := h.len
  by_cases he : er zs m i 0 = 0
  · obtain ⟨hk, hi, hy⟩ := er_zero he
    rw [he, va_0]
    exact rCut0 h hk (by rw [← hl]; exact hi)
  · have WR := hidden (wrong (cap := cap) h i m 0)
    rw [va_no he]
    generalize er zs m i 0 = E at *
    clear h hl
    go_enter Try.func19, Try.ntmps19
    go_wp2_with fail
    refine Calls.mono WR.out ?_
    rintro e w1 ⟨rfl, hB⟩
    have HB := hidden hB
    clear hB WR
    go_wp2
    go_ret2
    exact ⟨rfl, HB.out⟩
end
end Go.Proofs.Ytbcdoilfmfckiaa.Co
