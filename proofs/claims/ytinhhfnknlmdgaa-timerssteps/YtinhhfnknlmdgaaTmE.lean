/-
  A heap of timers: two items change places; an item rises, sinks, settles.
  Conditions: the heap lies in memory, the places are its own.
-/
import Derived.Test.YtinhhfnknlmdgaaTmD
import Derived.BigRegion
namespace Go.Proofs.Ytinhhfnknlmdgaa.Tm
open Go.ChangeShapes Go.WideShapes Go.ChangeAt Go.RowKit Go.Sort
open Ba (hidden Only In Has own_ne own_stay own_len own_some own_mono cell_lt heap_lt)
set_option linter.unusedVariables false

theorem two_new (w : World) (A B : Array Value) (t : TypeId) (i : Nat) : ((w.alloc (.cells A t)).alloc (.cells B t)).drew.cell? ⟨w.heap.size, i, none⟩ = A[i]? ∧ ((w.alloc (.cells A t)).alloc (.cells B t)).drew.cell? ⟨w.heap.size + 1, i, none⟩ = B[i]? := by
  constructor
  · have e : ((w.alloc (.cells A t)).alloc (.cells B t)).drew.heap[w.heap.size]? = some (.cells A t) := (Below.heap_alloc _ _ _ (by simp)).trans (heap_alloc_new w _)
    simp only [World.cell?, e]
    rfl
  · have e : ((w.alloc (.cells A t)).alloc (.cells B t)).drew.heap[w.heap.size + 1]? = some (.cells B t) := by
      have := heap_alloc_new (w.alloc (.cells A t)) (.cells B t)
      rw [World.size_alloc] at this
      exact this
    simp only [World.cell?, e]
    rfl
theorem more_in {f : Int → Option Int} {k : Int} {n : Nat} (h : (f k).isSome = true) : more f k n = n := by unfold more; rw [if_pos h]
set_option maxHeartbeats 1000000 in
theorem swapF {w : World} {b m n : Nat} {v : Value} {X : List D} {f : Int → Option Int} (h : Hp w b v m X f n) (hp : Posn f X) (hk : ∀ d ∈ X, Ok d) (hn : n < 1000000) (hX : X.length ≤ 1000000) (i j : Nat) (hi : i < X.length) (hj : j < X.length) : Calls Try.prog 50 #[.pointer (some ⟨b, 0, none⟩), .int .i64 (i : Int), .int .i64 (j : Int)] w fun e w' => e = .returned (.tuple #[]) ∧ Hp w' b v m (swap X i j) (upd (upd f (at_ X j).1 i) (at_ X i).1 j) n ∧ Only (hfoot v b m) w w' := by
  have hb := h.1.lt
  obtain ⟨g, cap, hv, hg, _, hcap⟩ := h.2.1.get hi
  have HF : Hid (w.heap.size ∉ hfoot v b m ∧ w.heap.size + 1 ∉ hfoot v b m) := ⟨fun hh => by have := h.lt _ hh; omega, fun hh => by have := h.lt _ hh; omega⟩
  have o1 := hk _ (at_mem hi)
  have o2 := hk _ (at_mem hj)
  have L1 : Hid (∀ W, Below w.heap.size w W → Calls Try.prog 40 #[.pointer (some ⟨b, 0, none⟩), .int .i64 (i : Int), dv (at_ X j)] W fun e w' => e = .returned (.tuple #[]) ∧ Hp w' b v m (X.set i (at_ X j)) (upd f (at_ X j).1 i) n ∧ Only (hfoot v b m) W w') := fun W hW => by
    have := lay (h.later hW) i hi (at_ X j) (by unfold I64; have := o2.1; omega) hn hX
    rw [more_in (by rw [hp.1 j hj]; rfl)] at this
    exact this
  have L2 : Hid (∀ W, Hp W b v m (X.set i (at_ X j)) (upd f (at_ X j).1 i) n → Calls Try.prog 40 #[.pointer (some ⟨b, 0, none⟩), .int .i64 (j : Int), dv (at_ X i)] W fun e w' => e = .returned (.tuple #[]) ∧ Hp w' b v m (swap X i j) (upd (upd f (at_ X j).1 i) (at_ X i).1 j) n ∧ Only (hfoot v b m) W w') := fun W hW => by
    have := lay hW j (by rw [List.length_set]; exact hj) (at_ X i) (by unfold I64; have := o1.1; omega) hn (by rw [List.length_set]; exact hX)
    rw [more_in (by unfold upd; split; rfl; rw [hp.1 i hi]; rfl)] at this
    exact this
  have c0 := h.1.cell 0 rfl
  subst hv
  obtain ⟨a1, a2, _⟩ := h.2.1.cell hi
  obtain ⟨a3, a4, _⟩ := h.2.1.cell hj
  unfold dv at L1 L2
  generalize at_ X i = di at a1 a2 L1 L2 ⊢
  generalize at_ X j = dj at a3 a4 L1 L2 ⊢
  have i1 : (i : Int) < (X.length : Int) := by omega
  have i2 : (j : Int) < (X.length : Int) := by omega
  generalize swap X i j = X2 at L2 ⊢
  generalize X.set i dj = X1 at L1 L2
  generalize X.length = l at *
  clear h hi hj hcap o1 o2 hp hk hn
  go_enter Try.func50, Try.ntmps50
  go_wp2_with fail
  go_region
  all_goals (
    go_wp2_with fail
    refine Calls.mono (L1.out _ (((Below.refl _ w).alloc (Nat.le_refl _) _).alloc (by simp) _).drew) ?_
    rintro e w1 ⟨rfl, hH, hO⟩
    have k0 := hO.cell (p := ⟨w.heap.size, 0, none⟩) ((two_new w _ _ 43 0).1.trans rfl) HF.out.1
    have k1 := hO.cell (p := ⟨w.heap.size, 1, none⟩) ((two_new w _ _ 43 1).1.trans rfl) HF.out.1
    have k2 := hO.cell (p := ⟨w.heap.size + 1, 0, none⟩) ((two_new w _ _ 43 0).2.trans rfl) HF.out.2
    have k3 := hO.cell (p := ⟨w.heap.size + 1, 1, none⟩) ((two_new w _ _ 43 1).2.trans rfl) HF.out.2
    have HO := hidden hO
    have HH := hidden hH
    clear hO hH L1
    go_wp2_with fail
    refine Calls.mono (L2.out _ HH.out) ?_
    rintro e w2 ⟨rfl, hH2, hO2⟩
    have HO2 := hidden hO2
    have HH2 := hidden hH2
    clear hO2 hH2
    go_wp2
    go_end0
    exact ⟨rfl, HH2.out, ((Only.of_below (((Below.refl _ w).alloc (Nat.le_refl _) _).alloc (by simp) _)).drew.then HO.out).then HO2.out⟩)

/-- the foremost of p and of those ahead of c whose parent it is -/
def Fo (X : List D) (p c t : Nat) : Prop := (t = p ∨ (2 * p + 1 ≤ t ∧ t < c ∧ t < X.length ∧ ky X t < ky X p)) ∧ ky X t ≤ ky X p ∧ ∀ k, 2 * p + 1 ≤ k → k < c → k < X.length → ky X t ≤ ky X k
theorem Fo.start (X : List D) (p : Nat) : Fo X p (2 * p + 1) p := ⟨.inl rfl, Int.le_refl _, fun k h1 h2 _ => by omega⟩
theorem Fo.lt {X : List D} {p c t : Nat} (h : Fo X p c t) (hp : p < X.length) : t < X.length := by
  rcases h.1 with rfl | h1
  · exact hp
  · exact h1.2.2.1
theorem Fo.yes {X : List D} {p c t : Nat} (h : Fo X p c t) (hc : 2 * p + 1 ≤ c) (hl : c < X.length) (hk : ky X c < ky X t) : Fo X p (c + 1) c := by
  obtain ⟨h1, h2, h3⟩ := h
  refine ⟨.inr ⟨hc, by omega, hl, by omega⟩, by omega, fun k g1 g2 g3 => ?_⟩
  by_cases e : k = c
  · subst e; exact Int.le_refl _
  · have := h3 k g1 (by omega) g3; omega
theorem Fo.no {X : List D} {p c t : Nat} (h : Fo X p c t) (hk : ¬ ky X c < ky X t) : Fo X p (c + 1) t := by
  obtain ⟨h1, h2, h3⟩ := h
  refine ⟨h1.imp id (fun h => ⟨h.1, by omega, h.2.2⟩), h2, fun k g1 g2 g3 => ?_⟩
  by_cases e : k = c
  · subst e; omega
  · exact h3 k g1 (by omega) g3
/-- .. of p and of all whose parent it is -/
def Fore (X : List D) (p t : Nat) : Prop := Fo X p (2 * p + 3) t
theorem Fo.all {X : List D} {p c t : Nat} (h : Fo X p c t) (hc : c ≤ 2 * p + 3) (hl : 2 * p + 2 < c ∨ X.length ≤ c) : Fore X p t := by
  obtain ⟨h1, h2, h3⟩ := h
  exact ⟨h1.imp id (fun h => ⟨h.1, by omega, h.2.2⟩), h2, fun k g1 g2 g3 => h3 k g1 (by omega) g3⟩
theorem aheadK {w : World} {b m n : Nat} {v : Value} {X : List D} {f : Int → Option Int} (h : Hp w b v m X f n) (hk : ∀ d ∈ X, Ok d) (i j : Nat) (hi : i < X.length) (hj : j < X.length) : Calls Try.prog 51 #[.pointer (some ⟨b, 0, none⟩), .int .i64 (i : Int), .int .i64 (j : Int)] w fun e w' => e = .returned (.bool (decide (ky X i < ky X j))) ∧ Below w.heap.size w w' := by
  have := ahead h i j hi hj
  rw [ord_lt (hk _ (at_mem hi)) (hk _ (at_mem hj))] at this
  exact this
set_option maxHeartbeats 1000000 in
theorem foremost {w : World} {b m n : Nat} {v : Value} {X : List D} {f : Int → Option Int} (h : Hp w b v m X f n) (hk : ∀ d ∈ X, Ok d) (hX : X.length ≤ 1000000) (p : Nat) (hp : p < X.length) : Calls Try.prog 49 #[.pointer (some ⟨b, 0, none⟩), .int .i64 (p : Int)] w fun e w' => (∃ t : Nat, e = .returned (.int .i64 (t : Int)) ∧ Fore X p t) ∧ Below w.heap.size w w' := by
  have hb := h.1.lt
  obtain ⟨g, cap, rfl, hg, _, hcap⟩ := h.2.1.get hp
  have c0 := h.1.cell 0 rfl
  have H : Hid (∀ W, Below w.heap.size w W → ∀ i j, i < X.length → j < X.length → Calls Try.prog 51 #[.pointer (some ⟨b, 0, none⟩), .int .i64 (i : Int), .int .i64 (j : Int)] W fun e w' => e = .returned (.bool (decide (ky X i < ky X j))) ∧ Below w.heap.size w w') := fun W hW i j hi hj =>
    (aheadK (h.later hW) hk i j hi hj).mono fun e w' hh => ⟨hh.1, hW.trans (hh.2.mono hW.size)⟩
  clear h hk
  obtain ⟨l, hl⟩ : ∃ l, l = X.length := ⟨_, rfl⟩
  have HL := hidden hl
  rw [← hl] at hX hp c0
  clear hl
  obtain ⟨pI, hpI⟩ : ∃ pI : Int, pI = p := ⟨_, rfl⟩
  rw [← hpI]
  have HP := hidden hpI
  have i0 : 0 ≤ pI := by omega
  have i1 : pI < (l : Int) := by omega
  have i2 : (l : Int) ≤ 1000000 := by omega
  clear hpI hp hX
  go_enter Try.func49, Try.ntmps49
  go_wp2_with fail
  go_loopw [5, 6] (fun t c wr => ∃ (tI cI : Int) (tn cn : Nat), t = .int .i64 tI ∧ c = .int .i64 cI ∧ Hid (tI = tn ∧ cI = cn ∧ Fo X p cn tn) ∧ 2 * pI + 1 ≤ cI ∧ cI ≤ 2 * pI + 3 ∧ Below w.heap.size w wr) (fun _ c _ => (2 * pI + 3 - intOf c).toNat)
  case atStart => exact ⟨_, _, p, 2 * p + 1, rfl, rfl, ⟨HP.out, by have := HP.out; omega, Fo.start X p⟩, by omega, by omega, Below.refl _ _⟩
  case round =>
    obtain ⟨tI, cI, tn, cn, rfl, rfl, HR, j1, j2, hB⟩ := hrel
    have hc := (hB.cell (p := ⟨b, 0, none⟩) hb).trans c0
    by_cases e1 : cI ≤ 2 * pI + 2
    · by_cases e2 : cI < (l : Int)
      · obtain ⟨r1, r2, r3⟩ := HR.out
        have e3 := HP.out
        have e4 := HL.out
        have A := hidden (H.out wr hB cn tn (by omega) (r3.lt (by omega)))
        rw [← r1, ← r2] at A
        by_cases e5 : ky X cn < ky X tn
        · rw [decide_eq_true e5] at A
          have HN := hidden (r3.yes (by omega) (by omega) e5)
          have HC := hidden r2
          clear r1 r2 r3 e3 e4 e5 HR
          go_wp2_with fail
          refine Calls.mono A.out ?_
          rintro e w2 ⟨rfl, hB2⟩
          go_wp2
          go_roundw
          case rel => exact ⟨_, _, cn, cn + 1, rfl, rfl, ⟨HC.out, by have := HC.out; omega, HN.out⟩, by omega, by omega, hB2⟩
          case measure => simp [intOf]; omega
        · rw [decide_eq_false e5] at A
          have HN := hidden (r3.no e5)
          have HC := hidden r2
          have HT := hidden r1
          clear r1 r2 r3 e3 e4 e5 HR
          go_wp2_with fail
          refine Calls.mono A.out ?_
          rintro e w2 ⟨rfl, hB2⟩
          go_wp2
          go_roundw
          case rel => exact ⟨_, _, tn, cn + 1, rfl, rfl, ⟨HT.out, by have := HC.out; omega, HN.out⟩, by omega, by omega, hB2⟩
          case measure => simp [intOf]; omega
      · have HN : Hid (Fore X p tn ∧ tI = tn) := by
          obtain ⟨r1, r2, r3⟩ := HR.out
          have e3 := HP.out
          have e4 := HL.out
          exact ⟨r3.all (by omega) (.inr (by omega)), r1⟩
        clear HR
        go_wp2
        go_ret
        exact ⟨⟨tn, by rw [HN.out.2]; rfl, HN.out.1⟩, hB⟩
    · have HN : Hid (Fore X p tn ∧ tI = tn) := by
        obtain ⟨r1, r2, r3⟩ := HR.out
        have e3 := HP.out
        exact ⟨r3.all (by omega) (.inl (by omega)), r1⟩
      clear HR
      go_wp2
      go_ret
      exact ⟨⟨tn, by rw [HN.out.2]; rfl, HN.out.1⟩, hB⟩

/-- a heap whose items were moved about since w -/
structure Mid (w : World) (b : Nat) (v : Value) (m n : Nat) (X : List D) (w' : World) (Y : List D) (f : Int → Option Int) : Prop where
  hp : Hp w' b v m Y f n
  pos : Posn f Y
  perm : Y.Perm X
  only : Only (hfoot v b m) w w'
theorem Mid.len {w w' : World} {b m n : Nat} {v : Value} {X Y : List D} {f : Int → Option Int} (h : Mid w b v m n X w' Y f) : Y.length = X.length := h.perm.length_eq
theorem Mid.ok {w w' : World} {b m n : Nat} {v : Value} {X Y : List D} {f : Int → Option Int} (h : Mid w b v m n X w' Y f) (hk : ∀ d ∈ X, Ok d) : ∀ d ∈ Y, Ok d := fun d hd => hk d (h.perm.mem_iff.1 hd)
theorem Mid.later {w w' w2 : World} {b m n : Nat} {v : Value} {X Y : List D} {f : Int → Option Int} (h : Mid w b v m n X w' Y f) (hB : Below w'.heap.size w' w2) : Mid w b v m n X w2 Y f := ⟨h.hp.later hB, h.pos, h.perm, h.only.then (Only.of_below hB)⟩
theorem Mid.swap {w w' : World} {b m n : Nat} {v : Value} {X Y : List D} {f : Int → Option Int} (h : Mid w b v m n X w' Y f) (hk : ∀ d ∈ X, Ok d) (hn : n < 1000000) (hX : X.length ≤ 1000000) (i j : Nat) (hi : i < X.length) (hj : j < X.length) :
    Calls Try.prog 50 #[.pointer (some ⟨b, 0, none⟩), .int .i64 (i : Int), .int .i64 (j : Int)] w' fun e w2 => e = .returned (.tuple #[]) ∧ ∃ f', Mid w b v m n X w2 (Tm.swap Y i j) f' := by
  have hl := h.len
  refine (swapF h.hp h.pos (h.ok hk) hn (by omega) i j (by omega) (by omega)).mono ?_
  rintro e w2 ⟨rfl, h1, h2⟩
  exact ⟨rfl, _, h1, posn_swap h.pos (by omega) (by omega), (swap_perm (by omega) (by omega)).trans h.perm, h.only.then h2⟩
/-- what rise leaves -/
def RiseO (w : World) (b : Nat) (v : Value) (m n : Nat) (X : List D) (l : Nat) (e : Ending) (w' : World) : Prop := ∃ (q : Nat) (Y : List D) (f' : Int → Option Int), e = .returned (.int .i64 (q : Int)) ∧ q < l ∧ Sunk Y q ∧ Mid w b v m n X w' Y f'
set_option maxHeartbeats 1000000 in
theorem rise {w : World} {b m n : Nat} {v : Value} {X : List D} {f : Int → Option Int} (h : Hp w b v m X f n) (hpo : Posn f X) (hk : ∀ d ∈ X, Ok d) (hn : n < 1000000) (hX : X.length ≤ 1000000) (p : Nat) (hp : p < X.length) (ha : Almost X p) :
    Calls Try.prog 45 #[.pointer (some ⟨b, 0, none⟩), .int .i64 (p : Int)] w fun e w' => RiseO w b v m n X X.length e w' := by
  have hM : Mid w b v m n X w X f := ⟨h, hpo, List.Perm.refl _, Only.refl _ _⟩
  obtain ⟨l, hl⟩ : ∃ l, l = X.length := ⟨_, rfl⟩
  have HL := hidden hl
  have H : Hid (∀ W Y f', Mid w b v m n X W Y f' → ∀ i j, i < l → j < l → Calls Try.prog 51 #[.pointer (some ⟨b, 0, none⟩), .int .i64 (i : Int), .int .i64 (j : Int)] W fun e w' => e = .returned (.bool (decide (ky Y i < ky Y j))) ∧ Mid w b v m n X w' Y f') := fun W Y f' hM i j hi hj =>
    (aheadK hM.hp (hM.ok hk) i j (by rw [hM.len, ← hl]; exact hi) (by rw [hM.len, ← hl]; exact hj)).mono fun e w' hh => ⟨hh.1, hM.later hh.2⟩
  have S : Hid (∀ W Y f', Mid w b v m n X W Y f' → ∀ i j, i < l → j < l → Calls Try.prog 50 #[.pointer (some ⟨b, 0, none⟩), .int .i64 (i : Int), .int .i64 (j : Int)] W fun e w' => e = .returned (.tuple #[]) ∧ ∃ f2, Mid w b v m n X w' (Tm.swap Y i j) f2) := fun W Y f' hM i j hi hj =>
    hM.swap hk hn hX i j (by rw [← hl]; exact hi) (by rw [← hl]; exact hj)
  rw [← hl] at hX hp ⊢
  clear h hk hpo hn hl
  obtain ⟨pI, hpI⟩ : ∃ pI : Int, pI = p := ⟨_, rfl⟩
  rw [← hpI]
  have HM := hidden hM
  have HA := hidden ha
  have HP := hidden hpI
  have i0 : 0 ≤ pI := by omega
  have i1 : pI < (l : Int) := by omega
  have i2 : (l : Int) ≤ 1000000 := by omega
  clear hpI hp hX hM ha
  go_enter Try.func45, Try.ntmps45
  go_wp2_with fail
  go_loopw [1] (fun t wr => ∃ (tI : Int) (tn : Nat) (Y : List D) (f' : Int → Option Int), t = .int .i64 tI ∧ Hid (tI = tn ∧ Almost Y tn ∧ Mid w b v m n X wr Y f') ∧ 0 ≤ tI ∧ tI < (l : Int)) (fun t _ => (intOf t).toNat)
  case atStart => exact ⟨_, p, X, f, rfl, ⟨HP.out, HA.out, HM.out⟩, by omega, by omega⟩
  case round =>
    obtain ⟨tI, tn, Y, f', rfl, HR, j1, j2⟩ := hrel
    obtain ⟨r1, r2, r3⟩ := HR.out
    by_cases e0 : 0 < tI
    · obtain ⟨qn, hqn⟩ : ∃ qn : Nat, qn = (tn - 1) / 2 := ⟨_, rfl⟩
      obtain ⟨qI, hqI⟩ : ∃ qI : Int, qI = qn := ⟨_, rfl⟩
      have hq : (tI - 1).tdiv 2 = qI := by rw [Int.tdiv_eq_ediv_of_nonneg (by omega)]; omega
      have A := hidden (H.out wr Y f' r3 tn qn (by omega) (by omega))
      rw [← r1, ← hqI] at A
      have k1 : 0 ≤ qI := by omega
      have k2 : qI < tI := by omega
      by_cases e1 : ky Y tn < ky Y qn
      · rw [decide_eq_true e1] at A
        have HN := hidden (show Almost (Tm.swap Y tn qn) qn by rw [hqn] at e1 ⊢; exact rise_step r2 (by omega) (by rw [r3.len, ← HL.out]; omega) e1)
        have HQ := hidden hqI
        have S1 : Hid (∀ W, Mid w b v m n X W Y f' → Calls Try.prog 50 #[.pointer (some ⟨b, 0, none⟩), .int .i64 tI, .int .i64 qI] W fun e w' => e = .returned (.tuple #[]) ∧ ∃ f2, Mid w b v m n X w' (Tm.swap Y tn qn) f2) := fun W hW => by
          have := S.out W Y f' hW tn qn (by omega) (by omega)
          rw [← r1, ← hqI] at this
          exact this
        clear r1 r2 r3 hqn hqI e1 HR
        go_wp2_with fail
        refine Calls.mono A.out ?_
        rintro e w2 ⟨rfl, hM2⟩
        have HM2 := hidden hM2
        clear hM2
        go_wp2_with fail
        refine Calls.mono (S1.out _ HM2.out) ?_
        rintro e w3 ⟨rfl, f3, hM3⟩
        have HM3 := hidden hM3
        clear hM3
        go_wp2
        go_roundw
        case rel => exact ⟨_, qn, _, f3, rfl, ⟨HQ.out, HN.out, HM3.out⟩, by omega, by omega⟩
        case measure => simp [intOf]; omega
      · rw [decide_eq_false e1] at A
        have HN := hidden (show Sunk Y tn from ⟨r2, fun _ => by rw [← hqn]; omega⟩)
        have HT := hidden r1
        clear r1 r2 r3 hqn hqI e1 HR
        go_wp2_with fail
        refine Calls.mono A.out ?_
        rintro e w2 ⟨rfl, hM2⟩
        have HM2 := hidden hM2
        clear hM2
        go_wp2
        go_ret
        exact ⟨tn, Y, f', by rw [← HT.out]; rfl, by have := HT.out; omega, HN.out, HM2.out⟩
    · have HN : Hid (Sunk Y tn ∧ tI = tn) := ⟨⟨r2, fun h => by omega⟩, r1⟩
      have HM2 := hidden r3
      clear r1 r2 r3 HR
      go_wp2
      go_ret
      exact ⟨tn, Y, f', by rw [← HN.out.2]; rfl, by have := HN.out.2; omega, HN.out.1, HM2.out⟩

theorem Fore.step {X : List D} {p t : Nat} (h : Fore X p t) (hne : t ≠ p) : (t = 2 * p + 1 ∨ t = 2 * p + 2) ∧ t < X.length ∧ ky X t < ky X p ∧ ∀ c, c = 2 * p + 1 ∨ c = 2 * p + 2 → c < X.length → ky X t ≤ ky X c := by
  obtain ⟨h1, h2, h3⟩ := h
  obtain ⟨g1, g2, g3, g4⟩ := h1.resolve_left hne
  exact ⟨by omega, g3, g4, fun c hc hl => h3 c (by omega) (by omega) hl⟩
theorem Fore.done {X : List D} {p : Nat} (h : Fore X p p) : ∀ c, c = 2 * p + 1 ∨ c = 2 * p + 2 → c < X.length → ky X p ≤ ky X c := fun c hc hl => h.2.2 c (by omega) (by omega) hl
/-- what sink and settle leave -/
def SinkO (w : World) (b : Nat) (v : Value) (m n : Nat) (X : List D) (e : Ending) (w' : World) : Prop := ∃ (Y : List D) (f' : Int → Option Int), e = .returned (.tuple #[]) ∧ Heap Y ∧ Mid w b v m n X w' Y f'
set_option maxHeartbeats 1000000 in
theorem sink {w W : World} {b m n : Nat} {v : Value} {X Y : List D} {f : Int → Option Int} (hM : Mid w b v m n X W Y f) (hk : ∀ d ∈ X, Ok d) (hn : n < 1000000) (hX : X.length ≤ 1000000) (p : Nat) (hp : p < X.length) (ha : Sunk Y p) :
    Calls Try.prog 44 #[.pointer (some ⟨b, 0, none⟩), .int .i64 (p : Int)] W fun e w' => SinkO w b v m n X e w' := by
  obtain ⟨l, hl⟩ : ∃ l, l = X.length := ⟨_, rfl⟩
  have HL := hidden hl
  have H : Hid (∀ W Y f', Mid w b v m n X W Y f' → ∀ i, i < l → Calls Try.prog 49 #[.pointer (some ⟨b, 0, none⟩), .int .i64 (i : Int)] W fun e w' => (∃ t : Nat, e = .returned (.int .i64 (t : Int)) ∧ Fore Y i t) ∧ Mid w b v m n X w' Y f') := fun W Y f' hM i hi =>
    (foremost hM.hp (hM.ok hk) (by rw [hM.len]; exact hX) i (by rw [hM.len, ← hl]; exact hi)).mono fun e w' hh => ⟨hh.1, hM.later hh.2⟩
  have S : Hid (∀ W Y f', Mid w b v m n X W Y f' → ∀ i j, i < l → j < l → Calls Try.prog 50 #[.pointer (some ⟨b, 0, none⟩), .int .i64 (i : Int), .int .i64 (j : Int)] W fun e w' => e = .returned (.tuple #[]) ∧ ∃ f2, Mid w b v m n X w' (Tm.swap Y i j) f2) := fun W Y f' hM i j hi hj =>
    hM.swap hk hn hX i j (by rw [← hl]; exact hi) (by rw [← hl]; exact hj)
  rw [← hl] at hp
  clear hk hn hl hX
  obtain ⟨pI, hpI⟩ : ∃ pI : Int, pI = p := ⟨_, rfl⟩
  rw [← hpI]
  have HM := hidden hM
  have HA := hidden ha
  have HP := hidden hpI
  have i0 : 0 ≤ pI := by omega
  have i1 : pI < (l : Int) := by omega
  clear hpI hp hM ha
  go_enter Try.func44, Try.ntmps44
  go_wp2_with fail
  go_loopw [1] (fun t wr => ∃ (tI : Int) (tn : Nat) (Y : List D) (f' : Int → Option Int), t = .int .i64 tI ∧ Hid (tI = tn ∧ Sunk Y tn ∧ Mid w b v m n X wr Y f') ∧ 0 ≤ tI ∧ tI < (l : Int)) (fun t _ => l - (intOf t).toNat)
  case atStart => exact ⟨_, p, Y, f, rfl, ⟨HP.out, HA.out, HM.out⟩, by omega, by omega⟩
  case round =>
    obtain ⟨tI, tn, Y, f', rfl, HR, j1, j2⟩ := hrel
    have A := hidden (H.out wr Y f' HR.out.2.2 tn (by have := HR.out.1; omega))
    rw [← HR.out.1] at A
    go_wp2_with fail
    refine Calls.mono A.out ?_
    rintro e w2 ⟨⟨sn, rfl, hF⟩, hM2⟩
    obtain ⟨r1, r2, r3⟩ := HR.out
    have hl2 : Y.length = l := by rw [r3.len, HL.out]
    clear HR A
    by_cases e1 : sn = tn
    · have HN := hidden (show Heap Y by rw [e1] at hF; exact sink_done r2 hF.done)
      have HM2 := hidden hM2
      have ee : (sn : Int) = tI := by omega
      rw [ee]
      clear r1 r2 r3 hF hM2 e1 ee hl2
      go_wp2
      go_end0
      exact ⟨Y, f', rfl, HN.out, HM2.out⟩
    · obtain ⟨g1, g2, g3, g4⟩ := hF.step e1
      have HN := hidden (sink_step r2 (by omega) g1 g2 g3 g4)
      have S1 : Hid (∀ W, Mid w b v m n X W Y f' → Calls Try.prog 50 #[.pointer (some ⟨b, 0, none⟩), .int .i64 tI, .int .i64 (sn : Int)] W fun e w' => e = .returned (.tuple #[]) ∧ ∃ f2, Mid w b v m n X w' (Tm.swap Y tn sn) f2) := fun W hW => by
        have := S.out W Y f' hW tn sn (by omega) (by omega)
        rw [← r1] at this
        exact this
      obtain ⟨sI, hsI⟩ : ∃ sI : Int, sI = sn := ⟨_, rfl⟩
      have ee : (sI == tI) = false := beq_eq_false_iff_ne.2 (by omega)
      have k1 : tI < sI := by omega
      have k2 : sI < (l : Int) := by omega
      rw [← hsI] at S1 ⊢
      have HS := hidden hsI
      have HM2 := hidden hM2
      clear r1 r2 r3 hF hM2 e1 hl2 g1 g2 g3 g4 hsI
      go_wp2_with fail
      refine Calls.mono (S1.out _ HM2.out) ?_
      rintro e w3 ⟨rfl, f3, hM3⟩
      have HM3 := hidden hM3
      clear hM3
      go_wp2
      go_roundw
      case rel => exact ⟨_, sn, _, f3, rfl, ⟨HS.out, HN.out, HM3.out⟩, by omega, by omega⟩
      case measure => simp [intOf]; omega
theorem settle {w : World} {b m n : Nat} {v : Value} {X : List D} {f : Int → Option Int} (h : Hp w b v m X f n) (hpo : Posn f X) (hk : ∀ d ∈ X, Ok d) (hn : n < 1000000) (hX : X.length ≤ 1000000) (p : Nat) (hp : p < X.length) (ha : Almost X p) :
    Calls Try.prog 41 #[.pointer (some ⟨b, 0, none⟩), .int .i64 (p : Int)] w fun e w' => SinkO w b v m n X e w' := by
  have R := hidden (rise h hpo hk hn hX p hp ha)
  have S : Hid (∀ W q Y f', Mid w b v m n X W Y f' → q < X.length → Sunk Y q → Calls Try.prog 44 #[.pointer (some ⟨b, 0, none⟩), .int .i64 ((q : Nat) : Int)] W fun e w' => SinkO w b v m n X e w') := fun W q Y f' hM hq hs => sink hM hk hn hX q hq hs
  clear h hpo hk ha
  go_enter Try.func41, Try.ntmps41
  go_wp2_with fail
  refine Calls.mono R.out ?_
  rintro e w1 ⟨q, Y, f', rfl, h1, h2, h3⟩
  have S1 := hidden (S.out w1 q Y f' h3 h1 h2)
  clear h1 h2 h3 R
  go_wp2_with fail
  refine Calls.mono S1.out ?_
  rintro e w2 ⟨Z, f2, rfl, h1, h2⟩
  have H1 := hidden h1
  have H2 := hidden h2
  clear h1 h2
  go_wp2
  go_end0
  exact ⟨Z, f2, rfl, H1.out, H2.out⟩
end Go.Proofs.Ytinhhfnknlmdgaa.Tm
