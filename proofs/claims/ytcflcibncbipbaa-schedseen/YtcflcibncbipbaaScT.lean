/-
  Turns one behind the other: each path that is fit comes once.
  Conditions: views that may be.
-/
import Derived.Test.YtcflcibncbipbaaScR
import Derived.Laws.MakeOwn
namespace Go.Proofs.Ytcflcibncbipbaa.Sc
open Go.ChangeShapes Go.WideShapes Go.ChangeAt Go.RowKit
open Ba (hidden Has Only)
set_option linter.unusedVariables false

theorem nv_head {last : Int} {vs : List Vw} (hc : chk vs = 0) {x : Int} (h : x ∈ fit vs) (hb : ∀ y ∈ fit vs, y ≠ x → lx (cst 0 last vs) x y = true) : nV 0 last vs = x ∧ nB 0 last vs = true ∧ oE 0 vs = 0 := by
  have hh := (srt_head (cst 0 last vs) (fit_wf vs).1 (x := x)).2 ⟨h, hb⟩
  have e : oL 0 last vs = srt (lx (cst 0 last vs)) (fit vs) := (o_ok hc (by decide) last).2
  cases e2 : srt (lx (cst 0 last vs)) (fit vs) with
  | nil => rw [e2] at hh; cases hh
  | cons z r =>
    rw [e2] at hh e
    have : z = x := by simpa using hh
    subst this
    exact n_cons e
theorem nv_some {last : Int} {vs : List Vw} (hc : chk vs = 0) (h : fit vs ≠ []) : ∃ x, x ∈ fit vs ∧ nV 0 last vs = x ∧ nB 0 last vs = true ∧ oE 0 vs = 0 := by
  have e : oL 0 last vs = srt (lx (cst 0 last vs)) (fit vs) := (o_ok hc (by decide) last).2
  cases e2 : srt (lx (cst 0 last vs)) (fit vs) with
  | nil => rw [srt_empty] at e2; exact absurd e2 h
  | cons z r =>
    rw [e2] at e
    refine ⟨z, (srt_perm (lx (cst 0 last vs)) _).mem_iff.1 (by rw [e2]; exact .head _), n_cons e⟩
theorem cst0 {vs : List Vw} {last : Int} (h : 0 ≤ last ∧ last < vs.length) {k : Nat} (hk : k < vs.length) : cst 0 last vs k = if (k : Int) ≤ last then (k : Int) - last - 1 + vs.length else (k : Int) - last - 1 := by
  unfold cst fst
  rw [if_neg (by decide), if_neg (by decide), if_pos (by omega)]
  split
  · rw [show (k : Int) - (last + 1) + vs.length = (k : Int) - last - 1 + vs.length by omega]
    exact Int.emod_eq_of_lt (by omega) (by omega)
  · rw [Int.add_emod_right, show (k : Int) - (last + 1) = (k : Int) - last - 1 by omega]
    exact Int.emod_eq_of_lt (by omega) (by omega)
theorem rise_at {l : List Int} (h : l.Pairwise (· < ·)) {i j : Nat} {x y : Int} (hi : l[i]? = some x) (hj : l[j]? = some y) (hij : i < j) : x < y := by
  obtain ⟨h1, rfl⟩ := List.getElem?_eq_some_iff.1 hi
  obtain ⟨h2, rfl⟩ := List.getElem?_eq_some_iff.1 hj
  exact List.pairwise_iff_getElem.1 h i j h1 h2 hij
/-- the turn behind a fit path -/
theorem nv_turn {vs : List Vw} (hc : chk vs = 0) {j : Nat} {L x : Int} (hj : (fit vs)[j]? = some L) (hx : (fit vs)[(j + 1) % (fit vs).length]? = some x) : nV 0 L vs = x ∧ nB 0 L vs = true ∧ oE 0 vs = 0 := by
  obtain ⟨w1, w2, w3⟩ := fit_wf vs
  have hjl : j < (fit vs).length := (List.getElem?_eq_some_iff.1 hj).1
  have hL := w2 L (List.mem_of_getElem? hj)
  have hxi := w2 x (List.mem_of_getElem? hx)
  refine nv_head hc (List.mem_of_getElem? hx) fun y hy hne => ?_
  have hyi := w2 y hy
  obtain ⟨i, hi, hiy⟩ := List.getElem_of_mem hy
  have hi2 : (fit vs)[i]? = some y := by rw [List.getElem?_eq_getElem hi, hiy]
  have kx := cst0 (last := L) (by omega) (k := x.toNat) (by omega)
  have ky := cst0 (last := L) (by omega) (k := y.toNat) (by omega)
  rw [Int.toNat_of_nonneg hxi.1] at kx
  rw [Int.toNat_of_nonneg hyi.1] at ky
  unfold lx
  rw [kx, ky]
  refine decide_eq_true ?_
  by_cases hlast : j + 1 < (fit vs).length
  · rw [Nat.mod_eq_of_lt hlast] at hx
    have h1 := rise_at w1 hj hx (by omega)
    rw [if_neg (show ¬ x ≤ L by omega)]
    by_cases hij : i ≤ j
    · have : y ≤ L := by
        by_cases e : i = j
        · subst e; rw [hj] at hi2; cases hi2; omega
        · have := rise_at w1 hi2 hj (by omega)
          omega
      rw [if_pos this]
      omega
    · have h3 : j + 1 < i := by
        by_cases e : i = j + 1
        · subst e; rw [hx] at hi2; cases hi2; exact absurd rfl hne
        · omega
      have := rise_at w1 hx hi2 h3
      rw [if_neg (by omega)]
      omega
  · have hm : (j + 1) % (fit vs).length = 0 := by
      rw [show j + 1 = (fit vs).length by omega]
      exact Nat.mod_self _
    rw [hm] at hx
    have hyl : y ≤ L := by
      by_cases e : i = j
      · subst e; rw [hj] at hi2; cases hi2; omega
      · have := rise_at w1 hi2 hj (by omega)
        omega
    have hxy : x < y := by
      by_cases e : i = 0
      · subst e; rw [hx] at hi2; cases hi2; exact absurd rfl hne
      · exact rise_at w1 hx hi2 (by omega)
    rw [if_pos hyl, if_pos (by omega)]
    omega
/-- what the counts are behind k turns, the first of them at place j -/
def Turns (F : List Int) (j k : Nat) (n : Nat) (S : List Int) : Prop := S.length = n ∧ (∀ c ∈ S, 0 ≤ c ∧ c ≤ k) ∧ ∀ i x, F[i]? = some x → S[x.toNat]? = some (if (i + F.length - j) % F.length < k then 1 else 0)
/-- what was told at last -/
def LastAt (F : List Int) (j k : Nat) (last0 last : Int) : Prop := (k = 0 ∧ last = last0) ∨ ∃ t, k = t + 1 ∧ F[(j + t) % F.length]? = some last
theorem turn_at {F : List Int} {j k : Nat} (hj : j < F.length) (hk : k < F.length) : ((j + k) % F.length + F.length - j) % F.length = k := by
  by_cases h : j + k < F.length
  · rw [Nat.mod_eq_of_lt h, show j + k + F.length - j = k + F.length by omega, Nat.add_mod_right, Nat.mod_eq_of_lt hk]
  · have e : (j + k) % F.length = j + k - F.length := by rw [Nat.mod_eq_sub_mod (by omega), Nat.mod_eq_of_lt (by omega)]
    rw [e, show j + k - F.length + F.length - j = k by omega, Nat.mod_eq_of_lt hk]
theorem off_inj {m j i i' : Nat} (hj : j < m) (hi : i < m) (hi' : i' < m) (h : (i + m - j) % m = (i' + m - j) % m) : i = i' := by
  have e : ∀ a, a < m → (a + m - j) % m = if a < j then a + m - j else a - j := fun a ha => by
    split
    · exact Nat.mod_eq_of_lt (by omega)
    · rw [Nat.mod_eq_sub_mod (by omega), Nat.mod_eq_of_lt (by omega)]
      omega
  rw [e i hi, e i' hi'] at h
  split at h <;> split at h <;> omega
theorem Turns.first {F : List Int} {j n : Nat} (hF : ∀ x ∈ F, 0 ≤ x ∧ x < n) : Turns F j 0 n (List.replicate n 0) :=
  ⟨by simp, fun c hc => by have := List.eq_of_mem_replicate hc; omega, fun i x hx => by
    have := hF x (List.mem_of_getElem? hx)
    rw [if_neg (by omega), List.getElem?_replicate, if_pos (by omega)]⟩
theorem Turns.next {F : List Int} {j k n : Nat} {S : List Int} {x : Int} (h : Turns F j k n S) (hj : j < F.length) (hk : k < F.length) (hr : F.Pairwise (· < ·)) (hF : ∀ x ∈ F, 0 ≤ x ∧ x < n) (hx : F[(j + k) % F.length]? = some x) : S[x.toNat]? = some 0 ∧ Turns F j (k + 1) n (S.set x.toNat 1) := by
  obtain ⟨h1, h2, h3⟩ := h
  have hin := hF x (List.mem_of_getElem? hx)
  have e0 := h3 _ x hx
  rw [turn_at hj hk, if_neg (by omega)] at e0
  refine ⟨e0, by simpa using h1, fun c hc => ?_, fun i y hy => ?_⟩
  · rcases List.mem_or_eq_of_mem_set hc with h | h
    · have := h2 c h; omega
    · omega
  · have hyin := hF y (List.mem_of_getElem? hy)
    have hil : i < F.length := (List.getElem?_eq_some_iff.1 hy).1
    by_cases e : i = (j + k) % F.length
    · subst e
      rw [hx] at hy
      cases hy
      rw [turn_at hj hk, if_pos (by omega), List.getElem?_set_self (by omega)]
    · have hne : x.toNat ≠ y.toNat := fun he => by
        have hxy : x = y := by omega
        subst hxy
        have hlt : (j + k) % F.length < F.length := Nat.mod_lt _ (by omega)
        rcases Nat.lt_or_gt_of_ne e with g | g
        · have := rise_at hr hy hx g; omega
        · have := rise_at hr hx hy g; omega
      rw [List.getElem?_set_ne hne, h3 i y hy]
      have hoff : (i + F.length - j) % F.length ≠ k := fun he => e (by
        have := turn_at hj hk
        exact off_inj hj hil (Nat.mod_lt _ (by omega)) (he.trans this.symm))
      by_cases g : (i + F.length - j) % F.length < k
      · rw [if_pos g, if_pos (by omega)]
      · rw [if_neg g, if_neg (by omega)]
theorem Turns.last {F : List Int} {j n : Nat} {S : List Int} (h : Turns F j F.length n S) {i : Nat} {x : Int} (hx : F[i]? = some x) : S[x.toNat]? = some 1 := by
  have hil : i < F.length := (List.getElem?_eq_some_iff.1 hx).1
  rw [h.2.2 i x hx, if_pos (Nat.mod_lt _ (by omega))]
/-- the place of the first turn -/
theorem turn_first {vs : List Vw} (hc : chk vs = 0) (last0 : Int) (h : fit vs ≠ []) : ∃ j, j < (fit vs).length ∧ ∀ k last, LastAt (fit vs) j k last0 last → ∃ x, (fit vs)[(j + k) % (fit vs).length]? = some x ∧ nV 0 last vs = x ∧ nB 0 last vs = true ∧ oE 0 vs = 0 := by
  obtain ⟨x0, hx0, e1, e2, e3⟩ := nv_some (last := last0) hc h
  obtain ⟨j, hj, hjx⟩ := List.getElem_of_mem hx0
  refine ⟨j, hj, fun k last hl => ?_⟩
  have hm : 0 < (fit vs).length := by omega
  rcases hl with ⟨rfl, rfl⟩ | ⟨t, rfl, hlast⟩
  · refine ⟨x0, ?_, e1, e2, e3⟩
    rw [Nat.add_zero, Nat.mod_eq_of_lt hj, List.getElem?_eq_getElem hj, hjx]
  · have hlt : (j + (t + 1)) % (fit vs).length < (fit vs).length := Nat.mod_lt _ hm
    refine ⟨_, List.getElem?_eq_getElem hlt, ?_⟩
    refine nv_turn hc hlast ?_
    rw [Nat.mod_add_mod, Nat.add_assoc]
    exact List.getElem?_eq_getElem hlt
/-- a new row of zeros -/
theorem make_zeros (n : Nat) (hn : n ≤ 8) (w : World) : ∃ w', (Instr.makeSlice 23 (.int .i64 (n : Int)) (.int .i64 (n : Int))).run Try.prog w = .ok (.slice (some ⟨w.heap.size, 0, none⟩) n n) w' ∧ Has w' w.heap.size (lc (List.replicate n 0)).toArray 3 ∧ Below w.heap.size w w' := by
  obtain ⟨i, hi, hz, hs, hb⟩ := info_parts infoI
  have h2 : (i.bytes : Int) * (n : Int) ≤ 281474976710656 := by rw [hb]; omega
  have hr := run_make (P := Try.prog) w 23 3 i _ Try.underlying23 hi hz .i64 .i64 (n : Int) (n : Int) (by omega) (Int.le_refl _) h2 (by omega)
  simp only [Int.toNat_natCast] at hr
  rw [hs] at hr
  have e : madeCells (Value.int .i64 0).cells (n * 1) = (lc (List.replicate n 0)).toArray := by
    apply Array.ext_getElem?
    intro j
    rw [show ((lc (List.replicate n 0)).toArray)[j]? = (lc (List.replicate n 0))[j]? by simp, lc_get]
    unfold madeCells
    rw [Array.getElem?_map, Array.getElem?_range, List.getElem?_replicate, Nat.mul_one]
    by_cases h : j < n
    · rw [if_pos h, if_pos h]
      show some ((#[Value.int .i64 0] : Array Value)[j % 1]!) = _
      rw [Nat.mod_one]
      rfl
    · rw [if_neg h, if_neg h]
      rfl
  rw [e] at hr
  exact ⟨_, hr, Has.new w _ _, (Below.refl _ w).alloc (Nat.le_refl _) _⟩
theorem seen_cell {w : World} {b : Nat} {S : List Int} (h : Has w b (lc S).toArray 3) {i : Nat} {x : Int} (hi : S[i]? = some x) : w.cell? ⟨b, i, none⟩ = some (.int .i64 x) := h.cell i (by rw [show ((lc S).toArray)[i]? = (lc S)[i]? by simp, lc_get, hi]; rfl)
theorem seen_set {w : World} {b : Nat} {S : List Int} (h : Has w b (lc S).toArray 3) (i : Nat) (x : Int) : Has (w.setCell ⟨b, i, none⟩ (.int .i64 x)) b (lc (S.set i x)).toArray 3 := by
  have := h.set i (.int .i64 x)
  rw [List.setIfInBounds_toArray, lc_set] at this
  exact this
end Go.Proofs.Ytcflcibncbipbaa.Sc
